/- Jobs: the search as a whole; the checks of jobs without errors. -/
import Derived.Test.YtpjmobpmpghpeaaGreatDoorJobG
import Derived.Test.YtpjmobpmpghpeaaGreatDoorShdI
import Derived.Test.YtpjmobpmpghpeaaGreatDoorHeldF
namespace Go.Proofs
open Go.RowKit Go.MapKept
set_option maxHeartbeats 16000000
set_option maxRecDepth 1000000
theorem ext_all (js : List JobT) (m : Nat) (w1 : World) (B2 bb bl bj bx : Nat) (vl : Value) (hx : Bx w1.heap.size B2 bb bl bj bx) (hm : 0 < m ∧ m ≤ 8) (hj : SlJ w1 vl js) (h0 : 0 < js.length ∧ js.length ≤ 32) (hok : ∀ j ∈ js, JobOk m j) : ∀ f, ExtOk js m w1 B2 bb bl bj bx vl f
  | 0 => fun order free s vo vf vb w hl hf hp => by
    cases hc : cutB s (lastI free) with
    | true => exact ext_cut js m w1 B2 bb bl bj bx vl 0 order free s vo vf vb w hp hm hc
    | false => exact ext_full js m w1 B2 bb bl bj bx vl 0 order free s vo vf vb w hx hp hm hc (by omega) hj h0
  | f + 1 => fun order free s vo vf vb w hl hf hp => by
    cases hc : cutB s (lastI free) with
    | true => exact ext_cut js m w1 B2 bb bl bj bx vl (f + 1) order free s vo vf vb w hp hm hc
    | false =>
      by_cases he : order.length = js.length
      · exact ext_full js m w1 B2 bb bl bj bx vl (f + 1) order free s vo vf vb w hx hp hm hc he hj h0
      · exact ext_step js m w1 B2 bb bl bj bx vl f (ext_all js m w1 B2 bb bl bj bx vl hx hm hj h0 hok f) order free s vo vf vb w hx hp hm hc (by omega) (by omega) hj h0 hok
theorem shAllL (l : List Int) (v : Value) (lo hi : Int) (w : World) (hl : SlI w v l) (hb : ∀ x ∈ l, lo ≤ x ∧ x ≤ hi) (hn : l.length ≤ 100000) :
    Calls Tryz.prog 65 #[v, .int .i64 lo, .int .i64 hi] w fun e w' => e = .returned (.int .i64 0) ∧ w' = w := by
  obtain ⟨A, cap, rfl⟩ := hl.form
  go_enter Tryz.func65, Tryz.ntmps65
  go_wp2
  go_loopw [12] (fun i wr => ∃ k : Nat, k ≤ l.length ∧ i = .int .i64 k ∧ wr = w) (fun i _ => l.length - (intOf i).toNat)
  case atStart => exact ⟨0, Nat.zero_le _, rfl, rfl⟩
  case round =>
    obtain ⟨k, hk, rfl, rfl⟩ := hrel
    rcases Nat.lt_or_eq_of_le hk with hkn | rfl
    · obtain ⟨b, o, y, rfl, -, hbl, hy, rk⟩ := hl.cells hkn
      have hyb := hb y (List.mem_of_getElem? hy)
      have c1 := fun W => shWithin_ok y lo hi W
      rw [(within_cases y lo hi).2.2.2 hyb] at c1
      have hi0 : (0 : Int) ≤ k := by omega
      have hi1 : (k : Int) < l.length := by omega
      have HK := Lib.hid (show k + 1 ≤ l.length from hkn)
      have HM := Lib.hid (show l.length - (k + 1) < l.length - k by omega)
      obtain ⟨wk1, wk2⟩ := wrapsK hkn (by omega)
      clear hl hb hyb hy
      go_wp2_with (go_at_call 51; refine (c1 _).mono ?_; rintro e w1 ⟨rfl, rfl⟩)
      go_roundw
      case rel => exact ⟨k + 1, HK.out, by simp, trivial⟩
      case measure => exact HM.out
    · go_wp2
      go_ret
      exact ⟨rfl, rfl⟩
def or4 (a b c d : Int) : Int := if a ≠ 0 then a else if b ≠ 0 then b else if c ≠ 0 then c else d
theorem shFirst4 (a b c d : Int) (blk cap : Nat) (w : World) (h0 : w.cell? ⟨blk, 0, none⟩ = some (.int .i64 a)) (h1 : w.cell? ⟨blk, 1, none⟩ = some (.int .i64 b)) (h2 : w.cell? ⟨blk, 2, none⟩ = some (.int .i64 c)) (h3 : w.cell? ⟨blk, 3, none⟩ = some (.int .i64 d)) :
    Calls Tryz.prog 49 #[.slice (some ⟨blk, 0, none⟩) 4 cap] w fun e w' => e = .returned (.int .i64 (or4 a b c d)) ∧ w' = w := by
  go_enter Tryz.func49, Tryz.ntmps49
  go_wp2
  refine wp_loop_rounds 5 ?_
  rw [rounds_succ]
  go_wp2
  all_goals (try (rw [rounds_succ]; go_wp2))
  all_goals (try (rw [rounds_succ]; go_wp2))
  all_goals (try (rw [rounds_succ]; go_wp2))
  all_goals (try (rw [rounds_succ]; go_wp2))
  all_goals go_ret
  all_goals (refine ⟨?_, rfl⟩; unfold or4; simp_all)
theorem checkTimes_ok (nm : ByteArray) (vt vd : Value) (t d : List Int) (m : Nat) (w : World) (ht : SlI w vt t) (hd : SlI w vd d) (hj : JobOk m (nm, t, d)) :
    Calls Tryz.prog 129 #[jobV nm vt vd, .int .i64 m] w fun e w' => e = .returned (.int .i64 0) ∧ Below w.heap.size w w' := by
  have hjt := hj.t
  have hjd := hj.d
  have hfew := hj.few
  dsimp only at hjt hjd
  obtain ⟨At, ct, rfl⟩ := ht.form
  obtain ⟨Ad, cd, rfl⟩ := hd.form
  have kT := fun W (h : SlI W (.slice At t.length ct) t) => shAllL t _ 0 1440 W h hj.tb (by omega)
  have kD := fun W (h : SlI W (.slice Ad d.length cd) d) => shAllL d _ 0 1440 W h hj.db (by omega)
  obtain ⟨n, hn⟩ : ∃ n, d.length = n := ⟨_, rfl⟩
  rw [hjt, ← hjd, hn] at kT ht ⊢
  rw [hn] at kD hd
  unfold jobV
  obtain ⟨W0, hW⟩ : ∃ W0, W0 = w.alloc (.cells #[.string nm, .slice At (n + 1) ct, .slice Ad n cd] 161) := ⟨_, rfl⟩
  have hB0 : Below w.heap.size w W0 := by subst hW; exact (Below.refl _ _).alloc (Nat.le_refl _) _
  have rj : RowK W0 161 w.heap.size [.string nm, .slice At (n + 1) ct, .slice Ad n cd] := by subst hW; exact heap_alloc_new w _
  have kk : ∀ V, Below W0.heap.size W0 V → V.cell? ⟨w.heap.size, 0, none⟩ = some (.string nm) ∧ V.cell? ⟨w.heap.size, 1, none⟩ = some (.slice At (n + 1) ct) ∧ V.cell? ⟨w.heap.size, 2, none⟩ = some (.slice Ad n cd) := fun V h => ⟨(rj.below h).cell (by rfl), (rj.below h).cell (by rfl), (rj.below h).cell (by rfl)⟩
  have hD := (Below.refl W0.heap.size W0).drew
  have hky := kk _ hD
  have hkyA := kk _ (hD.alloc hD.size (.cells #[.int .i64 0, .int .i64 0, .int .i64 0, .int .i64 0] 30))
  have kT0 := kT _ ((ht.below hB0).below hD)
  have kD0 := kD _ ((hd.below hB0).below hD)
  have hw1 := fun W => shWhen_ok false 2 W
  have hw2 := fun W => shWhen_ok false 5 W
  simp only [Bool.false_eq_true, if_false] at hw1 hw2
  have ho := fun blk W => shFirst4 0 0 0 0 blk 4 W
  rw [show or4 0 0 0 0 = 0 from rfl] at ho
  have hn8 : n + 1 ≤ 8 := by omega
  have hn0 : decide ((8 : Int) < (n : Int) + 1) = false := by simp; omega
  have hBF := hB0.drew.alloc hB0.size (.cells #[.int .i64 0, .int .i64 0, .int .i64 0, .int .i64 0] 30)
  clear hj hjt hjd hfew hn kT kD ht hd kk
  obtain ⟨wn1, wn2⟩ := wrapsN (n := n) (by omega)
  go_enter Tryz.func129, Tryz.ntmps129
  go_wp2_with fail
  rw [← hW]
  clear hW
  go_region_held3 (fun w' => w'.cell? ⟨w.heap.size, 0, none⟩ = some (.string nm) ∧ w'.cell? ⟨w.heap.size, 1, none⟩ = some (.slice At (n + 1) ct) ∧ w'.cell? ⟨w.heap.size, 2, none⟩ = some (.slice Ad n cd)) (first | exact hky | exact hkyA | go_keep)
    (first
      | (go_at_call 65; (first | with_reducible refine kT0.mono ?_ | with_reducible refine kD0.mono ?_); rintro e w4 ⟨rfl, rfl⟩)
      | (go_at_call 60; (first | with_reducible refine (hw1 _).mono ?_ | with_reducible refine (hw2 _).mono ?_); rintro e w4 ⟨rfl, rfl⟩)
      | (go_at_call 49; refine (ho _ _ ?_ ?_ ?_ ?_).mono ?_; (go_simp); (go_simp); (go_simp); (go_simp); rintro e w5 ⟨rfl, rfl⟩))
  go_wp2
  go_ret
  exact ⟨rfl, hBF⟩
end Go.Proofs
