import Derived.Test.YtdiddniddohhgaaGreatDoorJobG
import Derived.Test.YtdiddniddohhgaaGreatDoorShdJ
import Derived.Test.YtdiddniddohhgaaGreatDoorHeldF
section
/- Jobs: the search as a whole; the checks of jobs without errors. -/
namespace Go.Proofs
open Go.RowKit Go.MapKept
set_option maxHeartbeats 16000000
set_option maxRecDepth 1000000
theorem ext_all (js : List JobT) (m : Nat) (w1 : World) (B2 bb bl bj bx : Nat) (vl : Value) (hx : Bx w1.heap.size B2 bb bl bj bx) (hm : 0 < m ∧ m ≤ 8) (hj : SlJ w1 vl js) (h0 : 0 < js.length ∧ js.length ≤ 32) (hok : ∀ j ∈ js, JobOk m j) : ∀ f, ExtOk js m w1 B2 bb bl bj bx vl f
  | 0 => fun order free s vo vf vb w hl hf hp => by
    cases hc : cutB s (lastI free) with
    | true => exact ext_cut js m w1 B2 bb bl bj bx vl 0 order free s vo vf vb w hp hm hc
    | false => exact ext_full js m w1 B2 bb bl bj bx vl 0 order free s vo vf vb w hx hp hm hc (by omega) hj h0
  | f + 1 => fun order free s vo vf vb w hl hf hp => by
    cases hc : cutB s (lastI free) with
    | true => exact ext_cut js m w1 B2 bb bl bj bx vl (f + 1) order free s vo vf vb w hp hm hc
    | false =>
      by_cases he : order.length = js.length
      · exact ext_full js m w1 B2 bb bl bj bx vl (f + 1) order free s vo vf vb w hx hp hm hc he hj h0
      · exact ext_step js m w1 B2 bb bl bj bx vl f (ext_all js m w1 B2 bb bl bj bx vl hx hm hj h0 hok f) order free s vo vf vb w hx hp hm hc (by omega) (by omega) hj h0 hok
theorem shAllL (l : List Int) (v : Value) (lo hi : Int) (w : World) (hl : SlI w v l) (hb : ∀ x ∈ l, lo ≤ x ∧ x ≤ hi) (hn : l.length ≤ 100000) :
    Calls Tryz.prog 122 #[v, .int .i64 lo, .int .i64 hi] w fun e w' => e = .returned (.int .i64 0) ∧ w' = w := by
  obtain ⟨A, cap, rfl⟩ := hl.form
  go_enter Tryz.func122, Tryz.ntmps122
  go_wp2
  go_loopw [12] (fun i wr => ∃ k : Nat, k ≤ l.length ∧ i = .int .i64 k ∧ wr = w) (fun i _ => l.length - (intOf i).toNat)
  case atStart => exact ⟨0, Nat.zero_le _, rfl, rfl⟩
  case round =>
    obtain ⟨k, hk, rfl, rfl⟩ := hrel
    rcases Nat.lt_or_eq_of_le hk with hkn | rfl
    · obtain ⟨b, o, y, rfl, -, hbl, hy, rk⟩ := hl.cells hkn
      have hyb := hb y (List.mem_of_getElem? hy)
      have c1 := fun W => shWithin_ok y lo hi W
      rw [(within_cases y lo hi).2.2.2 hyb] at c1
      have hi0 : (0 : Int) ≤ k := by omega
      have hi1 : (k : Int) < l.length := by omega
      have HK := Lib.hid (show k + 1 ≤ l.length from hkn)
      have HM := Lib.hid (show l.length - (k + 1) < l.length - k by omega)
      obtain ⟨wk1, wk2⟩ := wrapsK hkn (by omega)
      clear hl hb hyb hy
      go_wp2_with (go_at_call 47; refine (c1 _).mono ?_; rintro e w1 ⟨rfl, rfl⟩)
      go_roundw
      case rel => exact ⟨k + 1, HK.out, by simp, trivial⟩
      case measure => exact HM.out
    · go_wp2
      go_ret
      exact ⟨rfl, rfl⟩
def or4 (a b c d : Int) : Int := if a ≠ 0 then a else if b ≠ 0 then b else if c ≠ 0 then c else d
theorem shFirst4 (a b c d : Int) (blk cap : Nat) (w : World) (h0 : w.cell? ⟨blk, 0, none⟩ = some (.int .i64 a)) (h1 : w.cell? ⟨blk, 1, none⟩ = some (.int .i64 b)) (h2 : w.cell? ⟨blk, 2, none⟩ = some (.int .i64 c)) (h3 : w.cell? ⟨blk, 3, none⟩ = some (.int .i64 d)) :
    Calls Tryz.prog 39 #[.slice (some ⟨blk, 0, none⟩) 4 cap] w fun e w' => e = .returned (.int .i64 (or4 a b c d)) ∧ w' = w := by
  go_enter Tryz.func39, Tryz.ntmps39
  go_wp2
  refine wp_loop_rounds 5 ?_
  rw [rounds_succ]
  go_wp2
  all_goals (try (rw [rounds_succ]; go_wp2))
  all_goals (try (rw [rounds_succ]; go_wp2))
  all_goals (try (rw [rounds_succ]; go_wp2))
  all_goals (try (rw [rounds_succ]; go_wp2))
  all_goals go_ret
  all_goals (refine ⟨?_, rfl⟩; unfold or4; simp_all)
theorem checkTimes_ok (nm : ByteArray) (vt vd : Value) (t d : List Int) (m : Nat) (w : World) (ht : SlI w vt t) (hd : SlI w vd d) (hj : JobOk m (nm, t, d)) :
    Calls Tryz.prog 117 #[jobV nm vt vd, .int .i64 m] w fun e w' => e = .returned (.int .i64 0) ∧ Below w.heap.size w w' := by
  have hjt := hj.t
  have hjd := hj.d
  have hfew := hj.few
  dsimp only at hjt hjd
  obtain ⟨At, ct, rfl⟩ := ht.form
  obtain ⟨Ad, cd, rfl⟩ := hd.form
  have kT := fun W (h : SlI W (.slice At t.length ct) t) => shAllL t _ 0 1440 W h hj.tb (by omega)
  have kD := fun W (h : SlI W (.slice Ad d.length cd) d) => shAllL d _ 0 1440 W h hj.db (by omega)
  obtain ⟨n, hn⟩ : ∃ n, d.length = n := ⟨_, rfl⟩
  rw [hjt, ← hjd, hn] at kT ht ⊢
  rw [hn] at kD hd
  unfold jobV
  obtain ⟨W0, hW⟩ : ∃ W0, W0 = w.alloc (.cells #[.string nm, .slice At (n + 1) ct, .slice Ad n cd] 132) := ⟨_, rfl⟩
  have hB0 : Below w.heap.size w W0 := by subst hW; exact (Below.refl _ _).alloc (Nat.le_refl _) _
  have rj : RowK W0 132 w.heap.size [.string nm, .slice At (n + 1) ct, .slice Ad n cd] := by subst hW; exact heap_alloc_new w _
  have kk : ∀ V, Below W0.heap.size W0 V → V.cell? ⟨w.heap.size, 0, none⟩ = some (.string nm) ∧ V.cell? ⟨w.heap.size, 1, none⟩ = some (.slice At (n + 1) ct) ∧ V.cell? ⟨w.heap.size, 2, none⟩ = some (.slice Ad n cd) := fun V h => ⟨(rj.below h).cell (by rfl), (rj.below h).cell (by rfl), (rj.below h).cell (by rfl)⟩
  have hD := (Below.refl W0.heap.size W0).drew
  have hky := kk _ hD
  have hkyA := kk _ (hD.alloc hD.size (.cells #[.int .i64 0, .int .i64 0, .int .i64 0, .int .i64 0] 28))
  have kT0 := kT _ ((ht.below hB0).below hD)
  have kD0 := kD _ ((hd.below hB0).below hD)
  have hw1 := fun W => shWhen_ok false 2 W
  have hw2 := fun W => shWhen_ok false 5 W
  simp only [Bool.false_eq_true, if_false] at hw1 hw2
  have ho := fun blk W => shFirst4 0 0 0 0 blk 4 W
  rw [show or4 0 0 0 0 = 0 from rfl] at ho
  have hn8 : n + 1 ≤ 8 := by omega
  have hn0 : decide ((8 : Int) < (n : Int) + 1) = false := by simp; omega
  have hBF := hB0.drew.alloc hB0.size (.cells #[.int .i64 0, .int .i64 0, .int .i64 0, .int .i64 0] 28)
  clear hj hjt hjd hfew hn kT kD ht hd kk
  obtain ⟨wn1, wn2⟩ := wrapsN (n := n) (by omega)
  go_enter Tryz.func117, Tryz.ntmps117
  go_wp2_with fail
  rw [← hW]
  clear hW
  go_region_held3 (fun w' => w'.cell? ⟨w.heap.size, 0, none⟩ = some (.string nm) ∧ w'.cell? ⟨w.heap.size, 1, none⟩ = some (.slice At (n + 1) ct) ∧ w'.cell? ⟨w.heap.size, 2, none⟩ = some (.slice Ad n cd)) (first | exact hky | exact hkyA | go_keep)
    (first
      | (go_at_call 122; (first | with_reducible refine kT0.mono ?_ | with_reducible refine kD0.mono ?_); rintro e w4 ⟨rfl, rfl⟩)
      | (go_at_call 40; (first | with_reducible refine (hw1 _).mono ?_ | with_reducible refine (hw2 _).mono ?_); rintro e w4 ⟨rfl, rfl⟩)
      | (go_at_call 39; refine (ho _ _ ?_ ?_ ?_ ?_).mono ?_; (go_simp); (go_simp); (go_simp); (go_simp); rintro e w5 ⟨rfl, rfl⟩))
  go_wp2
  go_ret
  exact ⟨rfl, hBF⟩
end Go.Proofs
end

section
/- Jobs: CheckJobs of jobs without errors. -/
namespace Go.Proofs
open Go.RowKit Go.MapKept
set_option maxHeartbeats 16000000
set_option maxRecDepth 1000000
structure JobsOk (m : Nat) (js : List JobT) : Prop where
  pos : 0 < js.length
  few : js.length ≤ 32
  ok : ∀ j ∈ js, JobOk m j
  nm : ∀ j ∈ js, NameOk j.1
  nd : ∀ (i k : Nat) (s t : JobT), k < i → js[k]? = some s → js[i]? = some t → s.1 ≠ t.1
theorem three_rows {W : World} {b : Nat} {T : TypeId} {x0 x1 x2 : Value} (h : W.heap[b]? = some (.cells #[x0, x1, x2] T (0, 0))) :
    W.cell? ⟨b, 0, none⟩ = some x0 ∧ W.cell? ⟨b, 1, none⟩ = some x1 ∧ W.cell? ⟨b, 2, none⟩ = some x2 := by
  have hz := fun j => cell_of_row W b j _ _ _ h
  refine ⟨?_, ?_, ?_⟩
  · rw [hz 0]; simp
  · rw [hz 1]; simp
  · rw [hz 2]; simp
theorem checkJobs_ok (js : List JobT) (m : Nat) (v : Value) (w : World) (hl : SlJ w v js) (ok : JobsOk m js) :
    Calls Tryz.prog 62 #[v] w fun e w' => e = .returned (.int .i64 0) ∧ Below w.heap.size w w' := by
  obtain ⟨bJ, oJ, cap, rfl, hbJ, hat⟩ := hl.addr ok.pos
  have hpos := ok.pos
  have hfew := ok.few
  have hw1 := fun W => shWhen_ok false 12 W
  have hw2 := fun W => shWhen_ok false 5 W
  have hn0 : ((js.length : Int) == 0) = false := by rw [beq_eq_false_iff_ne]; omega
  have hn1 : decide ((32 : Int) < js.length) = false := by simp; omega
  simp only [Bool.false_eq_true, if_false] at hw1 hw2
  have ho2 := fun blk W => shFirst2 0 0 blk 2 W
  have ho := fun blk W => shFirst3 0 0 0 blk 3 W
  rw [show or3 0 0 0 = 0 from rfl] at ho ho2
  obtain ⟨W1, hW1⟩ : ∃ W1, W1 = w.alloc (.cells #[.int .i64 0, .int .i64 0] 28) := ⟨_, rfl⟩
  have hX1 : Below w.heap.size w W1 := by subst hW1; exact (Below.refl _ _).alloc (Nat.le_refl _) _
  have rE : RowK W1 28 w.heap.size [.int .i64 0, .int .i64 0] := by subst hW1; exact heap_alloc_new w _
  have e0 : W1.cell? ⟨w.heap.size, 0, none⟩ = some (.int .i64 0) := rE.cell (by rfl)
  have e1 : W1.cell? ⟨w.heap.size, 1, none⟩ = some (.int .i64 0) := rE.cell (by rfl)
  obtain ⟨⟨nm0, t0, d0⟩, hj0⟩ : ∃ j, js[0]? = some j := ⟨_, List.getElem?_eq_getElem hpos⟩
  obtain ⟨vt0, vd0, -, q1, -, qt, -⟩ := hat 0 _ hj0
  dsimp only at q1 qt
  rw [Nat.zero_mul, Nat.add_zero] at q1
  have hm0 : t0.length = m := (ok.ok _ (List.mem_of_getElem? hj0)).t
  have kSt := fun W (h : Below w.heap.size w W) => stations_ok vt0 t0 bJ oJ js.length cap W ((h.cell (p := ⟨bJ, oJ + 1, none⟩) hbJ).trans q1) (qt.below h) hpos
  rw [hm0] at kSt
  have hmk := run_makeMap (P := Tryz.prog) 109 W1
  have hM0 := NMap.made W1
  have hBM : Below w.heap.size w (W1.alloc (.map #[] 0)) := hX1.alloc hX1.size _
  have hzM : W1.heap.size < (W1.alloc (.map #[] 0)).heap.size := by simp
  have HW1 := Lib.hid hW1
  have HAT := Lib.hid hat
  have HOK := Lib.hid ok
  have HST := Lib.hid kSt
  clear q1 qt hj0 hm0 hW1 rE hat ok kSt
  go_enter Tryz.func62, Tryz.ntmps62
  go_wp2_with (first
    | (go_at_call 40; (first | with_reducible refine (hw1 _).mono ?_ | with_reducible refine (hw2 _).mono ?_); rintro e w4 ⟨rfl, hw4⟩; obtain rfl : w = w4 := hw4.symm)
    | (go_at_call 39; rw [← HW1.out]; refine (ho2 _ _ e0 e1).mono ?_; rintro e w5 ⟨rfl, hw5⟩; obtain rfl : W1 = w5 := hw5.symm))
  clear hmk e0 e1 hw1 hw2 ho2 hw5 HW1
  go_loopw [24] (fun i wr => ∃ k : Nat, k ≤ js.length ∧ i = .int .i64 k ∧ NMap wr W1.heap.size ((js.take k).map (·.1)) ∧ W1.heap.size < wr.heap.size ∧ Below w.heap.size w wr) (fun i _ => js.length - (intOf i).toNat)
  case atStart => exact ⟨0, Nat.zero_le _, rfl, hM0, hzM, hBM⟩
  case round =>
    clear hM0 hzM hBM
    obtain ⟨k, hk, rfl, hM, hz, hBw⟩ := hrel
    rcases Nat.lt_or_eq_of_le hk with hkn | rfl
    · obtain ⟨⟨s, tl, dl⟩, hc⟩ : ∃ j, js[k]? = some j := ⟨_, List.getElem?_eq_getElem hkn⟩
      obtain ⟨vt, vd, j0, j1, j2, ht, hd⟩ := HAT.out k _ hc
      dsimp only at j0 j1 j2 ht hd
      have hjo : JobOk m (s, tl, dl) := HOK.out.ok _ (List.mem_of_getElem? hc)
      have hnm : NameOk s := HOK.out.nm _ (List.mem_of_getElem? hc)
      obtain ⟨At, ct, rfl⟩ := ht.form
      obtain ⟨Ad, cd, rfl⟩ := hd.form
      have r0 := (hBw.cell (p := ⟨bJ, oJ + k * 3, none⟩) hbJ).trans j0
      have r1 := (hBw.cell (p := ⟨bJ, oJ + k * 3 + 1, none⟩) hbJ).trans j1
      have r2 := (hBw.cell (p := ⟨bJ, oJ + k * 3 + 2, none⟩) hbJ).trans j2
      have hi0 : (0 : Int) ≤ k := by omega
      have hi1 : (k : Int) < js.length := by omega
      have hnew : s ∉ (js.take k).map (·.1) := fun hm => by
        obtain ⟨t, ht, e⟩ := List.mem_map.1 hm
        obtain ⟨j, hj⟩ := List.mem_iff_getElem?.1 ht
        rw [List.getElem?_take] at hj
        split at hj
        · rename_i hjk
          exact HOK.out.nd k j t _ hjk hj hc e
        · cases hj
      have hsucc : (js.take (k + 1)).map (·.1) = (js.take k).map (·.1) ++ [s] := by
        rw [List.take_add_one, hc]
        simp
      obtain ⟨Wt, hW⟩ : ∃ Wt, Wt = (wr.alloc (.cells #[.string s, .slice At tl.length ct, .slice Ad dl.length cd] 132)) := ⟨_, rfl⟩
      have hb0 : Wt.heap[wr.heap.size]? = some (.cells #[.string s, .slice At tl.length ct, .slice Ad dl.length cd] 132 (0, 0)) := by subst hW; exact heap_alloc_new wr _
      have hzt : wr.heap.size < Wt.heap.size := (Array.getElem?_eq_some_iff.1 hb0).1
      have hYt : Below w.heap.size w Wt := by subst hW; exact hBw.alloc hBw.size _
      have hMt : NMap Wt W1.heap.size ((js.take k).map (·.1)) := by subst hW; exact hM.keep (Below.heap_alloc _ _ _ hz)
      have kz : ∀ V : World, V.heap[wr.heap.size]? = some (.cells #[.string s, .slice At tl.length ct, .slice Ad dl.length cd] 132 (0, 0)) → V.cell? ⟨wr.heap.size, 0, none⟩ = some (.string s) ∧ V.cell? ⟨wr.heap.size, 1, none⟩ = some (.slice At tl.length ct) ∧ V.cell? ⟨wr.heap.size, 2, none⟩ = some (.slice Ad dl.length cd) := fun V h => three_rows h
      have hky := kz Wt.drew hb0
      have kTm := fun W (h : Below w.heap.size w W) => checkTimes_ok s _ _ tl dl m W (ht.below h) (hd.below h) hjo
      unfold jobV at kTm
      have hwB := hBw.size
      have hsl := fun W => shCheckName_ok s W hnm
      have kSt := HST.out
      have HKZ := Lib.hid kz
      have HKT := Lib.hid kTm
      have HKS := Lib.hid kSt
      have HK := Lib.hid (show k + 1 ≤ js.length from hkn)
      have HM := Lib.hid (show js.length - (k + 1) < js.length - k by omega)
      clear hM hc hnm j0 j1 j2 kz kTm kSt
      go_wp2_with fail
      rw [← hW]
      clear hW r0 r1 r2
      go_region_held3 (fun w' => w'.cell? ⟨wr.heap.size, 0, none⟩ = some (.string s) ∧ w'.cell? ⟨wr.heap.size, 1, none⟩ = some (.slice At tl.length ct) ∧ w'.cell? ⟨wr.heap.size, 2, none⟩ = some (.slice Ad dl.length cd)) (first | exact hky | exact hkyA | go_keep)
        (first
          | (go_at_call 48; refine (hsl _).mono ?_; rintro e v1 ⟨rfl, hQ1⟩; have hb1 := (hQ1.block wr.heap.size hzt).trans hb0; have hm1 := hMt.keep (hQ1.block W1.heap.size (Nat.lt_trans hz hzt)); have hky := HKZ.out _ hb1; have hY1 := hYt.drew.trans (hQ1.mono (Nat.le_trans hwB (Nat.le_of_lt hzt))); have hs1 := hQ1.size)
          | (go_at_call 49; refine (shAdd_ok _ _ _ _ hm1 hnew).mono ?_; rintro e v2 ⟨rfl, hm2, hg2⟩; have hb2 := (hg2.block wr.heap.size (Nat.lt_of_lt_of_le hzt hs1) (by simp; omega)).trans hb1; have hky := HKZ.out _ hb2; have hY2 := hY1.grown hg2 hY1.size (fun j hj => by injection hj with hj; have := hX1.size; omega); have hs2 := hg2.size)
          | (go_at_call 64; refine (HKS.out _ hY2).mono ?_; rintro e v5 ⟨rfl, hv5⟩; obtain rfl : v2 = v5 := hv5.symm)
          | (go_at_call 117; refine (HKT.out _ hY2).mono ?_; rintro e v3 ⟨rfl, hQ3⟩; have hb3 := (hQ3.block wr.heap.size (Nat.lt_of_lt_of_le (Nat.lt_of_lt_of_le hzt hs1) hs2)).trans hb2; have hm3 := hm2.keep (hQ3.block _ hm2.lt); have hky := HKZ.out _ hb3; have hkyA := HKZ.out (v3.alloc (.cells #[.int .i64 0, .int .i64 0, .int .i64 0] 28)).drew ((Below.heap_alloc _ _ _ (Array.getElem?_eq_some_iff.1 hb3).1).trans hb3); have hY3 := hY2.trans (hQ3.mono hY2.size))
          | (go_at_call 39; refine (ho _ _ ?_ ?_ ?_).mono ?_; (go_simp); (go_simp); (go_simp); rintro e w5 ⟨rfl, rfl⟩))
      rename_i hHeld
      clear hHeld hkyA hky hsl hb1 hm1 hb2 hb3 hb0 hMt hYt hQ1 hQ3 hY1
      have hm4 : NMap (v3.alloc (.cells #[.int .i64 0, .int .i64 0, .int .i64 0] 28)) W1.heap.size ((js.take (k + 1)).map (·.1)) := by rw [hsucc]; exact hm3.keep (Below.heap_alloc _ _ _ hm3.lt)
      have hY4 := hY3.alloc hY3.size (.cells #[.int .i64 0, .int .i64 0, .int .i64 0] 28)
      have hz4 : W1.heap.size < (v3.alloc (.cells #[.int .i64 0, .int .i64 0, .int .i64 0] 28)).heap.size := by have := hm3.lt; simp; omega
      generalize v3.alloc (.cells #[.int .i64 0, .int .i64 0, .int .i64 0] 28) = v4 at hm4 hY4 hz4 ⊢
      clear hnew hsucc hm3 hY3 hm2 hg2 hY2
      obtain ⟨wk1, wk2⟩ := wrapsK hkn (by omega)
      go_wp2
      go_roundw
      case rel => exact ⟨k + 1, HK.out, by simp, hm4, hz4, hY4⟩
      case measure => exact HM.out
    · go_wp2
      go_ret
      exact ⟨rfl, hBw⟩
end Go.Proofs
end
