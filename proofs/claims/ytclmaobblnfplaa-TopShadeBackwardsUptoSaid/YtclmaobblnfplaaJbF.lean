/- Jobs, exactly: CheckJobs of shop. -/
import Derived.Test.YtclmaobblnfplaaJbE
namespace Go.Proofs
open Go.RowKit Go.MapKept
set_option maxHeartbeats 16000000
set_option maxRecDepth 1000000
theorem shJobX_ok (js : List JobT) (v : Value) (w : World) (hl : SlJ w v js) (hs : ∀ j ∈ js, j.2.1.length ≤ 1000 ∧ j.2.2.length ≤ 1000) :
    Calls Try.prog 20 #[v] w fun e w' => ∃ n, e = .returned (.int .i64 n) ∧ JobX js n ∧ Below w.heap.size w w' := by
  have H12 : RowKit.Hid (js.length = 0 → JobX js 12) := Lib.hid fun h => .inl ⟨h, rfl⟩
  have H5 : RowKit.Hid (32 < js.length → JobX js 5) := Lib.hid fun h => .inr ⟨by omega, .inl ⟨h, rfl⟩⟩
  have HN : RowKit.Hid (∀ n, 0 < js.length → js.length ≤ 32 → ScanE js (jobE js) n → JobX js n) := Lib.hid fun n h0 h h2 => .inr ⟨h0, .inr ⟨h, h2⟩⟩
  generalize JobX js = GX at H12 H5 HN ⊢
  have HS := Lib.hid hs
  clear hs
  obtain ⟨b1, hb1⟩ : ∃ b, ((js.length : Int) == 0) = b := ⟨_, rfl⟩
  obtain ⟨b2, hb2⟩ : ∃ b, decide ((32 : Int) < (js.length : Int)) = b := ⟨_, rfl⟩
  have hw1 := fun W => shWhen_ok b1 12 W
  have hw2 := fun W => shWhen_ok b2 5 W
  obtain ⟨ea, hea⟩ : ∃ ea, ea = (if b1 = true then (12 : Int) else 0) := ⟨_, rfl⟩
  obtain ⟨ec, hec⟩ : ∃ ec, ec = (if b2 = true then (5 : Int) else 0) := ⟨_, rfl⟩
  simp only [← hea] at hw1
  simp only [← hec] at hw2
  obtain ⟨er, her⟩ : ∃ er, er = or3 ea ec 0 := ⟨_, rfl⟩
  have hF : (er = 0 ∧ 0 < js.length ∧ js.length ≤ 32) ∨ (er ≠ 0 ∧ GX er) := by
    rw [her, hea, hec]
    cases b1 with
    | true => exact .inr ⟨by simp [or3], by
        have := H12.out (by simp at hb1; simp [hb1])
        simpa [or3] using this⟩
    | false =>
      cases b2 with
      | true => exact .inr ⟨by simp [or3], by
          have := H5.out (by have := of_decide_eq_true hb2; omega)
          simpa [or3] using this⟩
      | false =>
        have h1 := of_decide_eq_false hb2
        have h2 : js.length ≠ 0 := fun e => by rw [e] at hb1; simp at hb1
        exact .inl ⟨by simp [or3], by omega, by omega⟩
  have ho2 := fun blk W => shFirst2 ea ec blk 2 W
  simp only [← her] at ho2
  clear hea hec her
  obtain ⟨W1, hW1⟩ : ∃ W1, W1 = w.alloc (.cells #[.int .i64 ea, .int .i64 ec] 37) := ⟨_, rfl⟩
  have hX1 : Below w.heap.size w W1 := by subst hW1; exact (Below.refl _ _).alloc (Nat.le_refl _) _
  have rE : RowK W1 37 w.heap.size [.int .i64 ea, .int .i64 ec] := by subst hW1; exact heap_alloc_new w _
  have e0 : W1.cell? ⟨w.heap.size, 0, none⟩ = some (.int .i64 ea) := rE.cell (by rfl)
  have e1 : W1.cell? ⟨w.heap.size, 1, none⟩ = some (.int .i64 ec) := rE.cell (by rfl)
  have HW1 := Lib.hid hW1
  clear hW1 rE
  rcases hF with ⟨rfl, hpos, hfew⟩ | ⟨hne, hG⟩
  case inr =>
    obtain ⟨A0, cap0, rfl⟩ := hl.form
    have hre : (er != 0) = true := by simpa using hne
    have HG := Lib.hid hG
    clear hG H12 H5 HN hne hl
    go_enter Try.func20, Try.ntmps20
    go_wp2_with (first
      | (go_at_call 21; (first | with_reducible refine (hw1 _).mono ?_ | with_reducible refine (hw2 _).mono ?_); rintro e w4 ⟨rfl, hw4⟩; obtain rfl : w = w4 := hw4.symm)
      | (go_at_call 19; rw [← HW1.out]; refine (ho2 _ _ e0 e1).mono ?_; rintro e w5 ⟨rfl, hw5⟩; obtain rfl : W1 = w5 := hw5.symm))
    go_ret
    exact ⟨er, rfl, HG.out, hX1⟩
  case inl =>
  have HGX : RowKit.Hid (∀ n, ScanE js (jobE js) n → GX n) := Lib.hid fun n h => HN.out n hpos hfew h
  clear H12 H5 HN
  obtain ⟨bJ, oJ, cap, rfl, hbJ, hat⟩ := hl.addr hpos
  obtain ⟨⟨nm0, t0, d0⟩, hj0⟩ : ∃ j, js[0]? = some j := ⟨_, List.getElem?_eq_getElem hpos⟩
  obtain ⟨vt0, vd0, -, q1, -, qt, -⟩ := hat 0 _ hj0
  dsimp only at q1 qt
  rw [Nat.zero_mul, Nat.add_zero] at q1
  have hm0 : t0.length = stN js := by unfold stN; rw [hj0]
  have kSt := fun W (h : Below w.heap.size w W) => stations_ok vt0 t0 bJ oJ js.length cap W ((h.cell (p := ⟨bJ, oJ + 1, none⟩) hbJ).trans q1) (qt.below h) hpos
  rw [hm0] at kSt
  have hmk := run_makeMap (P := Try.prog) 73 W1
  have hM0 := NMX.made W1
  have hBM : Below w.heap.size w (W1.alloc (.map #[] 0)) := hX1.alloc hX1.size _
  have hzM : W1.heap.size < (W1.alloc (.map #[] 0)).heap.size := by simp
  have HAT := Lib.hid hat
  have HST := Lib.hid kSt
  clear q1 qt hj0 hm0 hat kSt
  go_enter Try.func20, Try.ntmps20
  go_wp2_with (first
    | (go_at_call 21; (first | with_reducible refine (hw1 _).mono ?_ | with_reducible refine (hw2 _).mono ?_); rintro e w4 ⟨rfl, hw4⟩; obtain rfl : w = w4 := hw4.symm)
    | (go_at_call 19; rw [← HW1.out]; refine (ho2 _ _ e0 e1).mono ?_; rintro e w5 ⟨rfl, hw5⟩; obtain rfl : W1 = w5 := hw5.symm))
  clear hmk e0 e1 hw1 hw2 ho2 hw5 HW1 hb1 hb2
  go_loopw [24] (fun i wr => ∃ k : Nat, k ≤ js.length ∧ i = .int .i64 k ∧ PreE js (jobE js) k ∧ NMX wr W1.heap.size ((js.take k).map (·.1)) ∧ W1.heap.size < wr.heap.size ∧ Below w.heap.size w wr) (fun i _ => js.length - (intOf i).toNat)
  case atStart => exact ⟨0, Nat.zero_le _, rfl, PreE.zero _ _, hM0, hzM, hBM⟩
  case round =>
    clear hM0 hzM hBM
    obtain ⟨k, hk, rfl, hp, hM, hz, hBw⟩ := hrel
    rcases Nat.lt_or_eq_of_le hk with hkn | rfl
    · obtain ⟨⟨s, tl, dl⟩, hc⟩ : ∃ j, js[k]? = some j := ⟨_, List.getElem?_eq_getElem hkn⟩
      obtain ⟨vt, vd, j0, j1, j2, ht, hd⟩ := HAT.out k _ hc
      have hln := HS.out _ (List.mem_of_getElem? hc)
      dsimp only at j0 j1 j2 ht hd hln
      obtain ⟨At, ct, rfl⟩ := ht.form
      obtain ⟨Ad, cd, rfl⟩ := hd.form
      have r0 := (hBw.cell (p := ⟨bJ, oJ + k * 3, none⟩) hbJ).trans j0
      have r1 := (hBw.cell (p := ⟨bJ, oJ + k * 3 + 1, none⟩) hbJ).trans j1
      have r2 := (hBw.cell (p := ⟨bJ, oJ + k * 3 + 2, none⟩) hbJ).trans j2
      have hi0 : (0 : Int) ≤ k := by omega
      have hi1 : (k : Int) < js.length := by omega
      have hsucc : (js.take (k + 1)).map (·.1) = (js.take k).map (·.1) ++ [s] := by
        rw [List.take_add_one, hc]
        simp
      obtain ⟨Wt, hW⟩ : ∃ Wt, Wt = (wr.alloc (.cells #[.string s, .slice At tl.length ct, .slice Ad dl.length cd] 31)) := ⟨_, rfl⟩
      have hb0 : Wt.heap[wr.heap.size]? = some (.cells #[.string s, .slice At tl.length ct, .slice Ad dl.length cd] 31 (0, 0)) := by subst hW; exact heap_alloc_new wr _
      have hzt : wr.heap.size < Wt.heap.size := (Array.getElem?_eq_some_iff.1 hb0).1
      have hYt : Below w.heap.size w Wt := by subst hW; exact hBw.alloc hBw.size _
      have hMt : NMX Wt W1.heap.size ((js.take k).map (·.1)) := by subst hW; exact hM.keep (Below.heap_alloc _ _ _ hz)
      have kz : ∀ V : World, V.heap[wr.heap.size]? = some (.cells #[.string s, .slice At tl.length ct, .slice Ad dl.length cd] 31 (0, 0)) → V.cell? ⟨wr.heap.size, 0, none⟩ = some (.string s) ∧ V.cell? ⟨wr.heap.size, 1, none⟩ = some (.slice At tl.length ct) ∧ V.cell? ⟨wr.heap.size, 2, none⟩ = some (.slice Ad dl.length cd) := fun V h => three_rows h
      have hky := kz Wt.drew hb0
      have kTm := fun W (h : Below w.heap.size w W) => checkTimesX_ok s _ _ tl dl (stN js) W (ht.below h) (hd.below h) hln.1 hln.2
      unfold jobV at kTm
      have hwB := hBw.size
      have hsl : ∀ W, Calls Try.prog 45 #[.string s] W fun e w' => e = .returned (.int .i64 (nameE s)) ∧ Below W.heap.size W w' := fun W => shCheckNameX_ok s W
      have kA := fun W (h : NMX W W1.heap.size ((js.take k).map (·.1))) => shAddX_ok W1.heap.size ((js.take k).map (·.1)) s W h
      have kSt := HST.out
      have htE : jobE js k (s, tl, dl) = orL [nameE s, twiceE s ((js.take k).map (·.1)), timesE tl dl (stN js)] := rfl
      have hr2 : orL [nameE s, twiceE s ((js.take k).map (·.1)), timesE tl dl (stN js)] = 0 → twiceE s ((js.take k).map (·.1)) = 0 := fun h => orL_eq0.1 h _ (by simp)
      generalize nameE s = ea2 at hsl htE hr2
      generalize twiceE s ((js.take k).map (·.1)) = eb at kA htE hr2
      generalize timesE tl dl (stN js) = et at kTm htE hr2
      have ho := fun blk W => shFirst3 ea2 eb et blk 3 W
      rw [or3_orL] at ho
      generalize orL [ea2, eb, et] = er at ho htE hr2
      have HP := Lib.hid hp
      have HT := Lib.hid htE
      have HC := Lib.hid hc
      have HR2 := Lib.hid hr2
      have HSU := Lib.hid hsucc
      have HKZ := Lib.hid kz
      have HKT := Lib.hid kTm
      have HKS := Lib.hid kSt
      have HK := Lib.hid (show k + 1 ≤ js.length from hkn)
      have HM := Lib.hid (show js.length - (k + 1) < js.length - k by omega)
      clear hM hc j0 j1 j2 kz kTm kSt hp htE hr2 hsucc hln
      go_wp2_with fail
      rw [← hW]
      clear hW r0 r1 r2
      go_region_held3 (fun w' => w'.cell? ⟨wr.heap.size, 0, none⟩ = some (.string s) ∧ w'.cell? ⟨wr.heap.size, 1, none⟩ = some (.slice At tl.length ct) ∧ w'.cell? ⟨wr.heap.size, 2, none⟩ = some (.slice Ad dl.length cd)) (first | exact hky | exact hkyA | go_keep)
        (first
          | (go_at_call 45; refine (hsl _).mono ?_; rintro e v1 ⟨rfl, hQ1⟩; have hb1 := (hQ1.block wr.heap.size hzt).trans hb0; have hm1 := hMt.keep (hQ1.block W1.heap.size (Nat.lt_trans hz hzt)); have hky := HKZ.out _ hb1; have hY1 := hYt.drew.trans (hQ1.mono (Nat.le_trans hwB (Nat.le_of_lt hzt))); have hs1 := hQ1.size)
          | (go_at_call 46; refine (kA _ hm1).mono ?_; rintro e v2 ⟨rfl, hg2, l2, hm2, hl2⟩; have hb2 := (hg2.block wr.heap.size (Nat.lt_of_lt_of_le hzt hs1) (by simp; omega)).trans hb1; have hky := HKZ.out _ hb2; have hY2 := hY1.grown hg2 hY1.size (fun j hj => by injection hj with hj; have := hX1.size; omega); have hs2 := hg2.size)
          | (go_at_call 27; refine (HKS.out _ hY2).mono ?_; rintro e v5 ⟨rfl, hv5⟩; obtain rfl : v2 = v5 := hv5.symm)
          | (go_at_call 47; refine (HKT.out _ hY2).mono ?_; rintro e v3 ⟨rfl, hQ3⟩; have hb3 := (hQ3.block wr.heap.size (Nat.lt_of_lt_of_le (Nat.lt_of_lt_of_le hzt hs1) hs2)).trans hb2; have hm3 := hm2.keep (hQ3.block _ hm2.lt); have hky := HKZ.out _ hb3; have hkyA := HKZ.out (v3.alloc (.cells #[.int .i64 ea2, .int .i64 eb, .int .i64 et] 37)).drew ((Below.heap_alloc _ _ _ (Array.getElem?_eq_some_iff.1 hb3).1).trans hb3); have hY3 := hY2.trans (hQ3.mono hY2.size))
          | (go_at_call 19; refine (ho _ _ ?_ ?_ ?_).mono ?_; (go_simp); (go_simp); (go_simp); rintro e w5 ⟨rfl, rfl⟩))
      rename_i hHeld
      clear hHeld hkyA hky hsl hb1 hm1 hb2 hb3 hb0 hMt hYt hQ1 hQ3 hY1
      have hm4 : NMX (v3.alloc (.cells #[.int .i64 ea2, .int .i64 eb, .int .i64 et] 37)) W1.heap.size l2 := hm3.keep (Below.heap_alloc _ _ _ hm3.lt)
      have hY4 := hY3.alloc hY3.size (.cells #[.int .i64 ea2, .int .i64 eb, .int .i64 et] 37)
      have hz4 : W1.heap.size < (v3.alloc (.cells #[.int .i64 ea2, .int .i64 eb, .int .i64 et] 37)).heap.size := by have := hm3.lt; simp; omega
      generalize v3.alloc (.cells #[.int .i64 ea2, .int .i64 eb, .int .i64 et] 37) = v4 at hm4 hY4 hz4 ⊢
      have HL2 := Lib.hid hl2
      clear hm3 hY3 hm2 hg2 hY2 hl2
      obtain ⟨wk1, wk2⟩ := wrapsK hkn (by omega)
      by_cases her : er = 0
      · subst her
        have hl3 := HL2.out (HR2.out rfl)
        subst hl3
        rw [← HSU.out] at hm4
        go_wp2
        go_roundw
        case rel => exact ⟨k + 1, HK.out, by simp, HP.out.step HC.out HT.out, hm4, hz4, hY4⟩
        case measure => exact HM.out
      · have hre : (er != 0) = true := by simpa using her
        have HR := Lib.hid (HGX.out er (by have := HP.out.bad HC.out (by rw [HT.out]; exact her); rwa [HT.out] at this))
        go_wp2
        go_ret
        exact ⟨er, rfl, HR.out, hY4⟩
    · have HR := Lib.hid (HGX.out 0 (hp.done (Nat.le_refl _)))
      clear hp
      go_wp2
      go_ret
      exact ⟨0, rfl, HR.out, hBw⟩
end Go.Proofs
