/- Jobs: what a job needs before and after a station, and altogether. -/
import Derived.Test.YtclmaobblnfplaaBndA
namespace Go.Proofs
open Go.RowKit Go.MapKept
set_option maxHeartbeats 16000000
set_option maxRecDepth 1000000
theorem slc_to (A : Option Addr) (c s : Nat) (l : List Int) (hs : s ≤ l.length) (hc : l.length ≤ c) : ∃ (A' : Option Addr) (c' : Nat), (∀ W, (Instr.slice 23 (.slice A l.length c) none (some (.int .i64 s)) none).run Try.prog W = .ok (.slice A' s c') W) ∧ s ≤ c' ∧ ∀ W, SlI W (.slice A l.length c) l → SlI W (.slice A' s c') (l.take s) := by
  have hz : ∀ W, (sizeOf (Try.prog.elem 23)).run Try.prog W = .ok 1 W := fun W => by go_simp
  refine ⟨if c = 0 then A else A.map (·.add 0), c, fun W => ?_, by omega, fun W h => ?_⟩
  · rw [run_slice_h W 23 A l.length c (by kernel_rfl) .i64 (s : Int) (by omega) (by omega), hz]
    simp [Result.andThen, sliced]
  · have hl : (l.take s).length = s := by rw [List.length_take]; omega
    rcases h with ⟨h1, h2⟩ | ⟨a, c2, h1, h2⟩
    · injection h1 with e1 e2 e3
      subst e1 e3 h2
      obtain rfl : s = 0 := by simpa using hs
      exact .inl ⟨by simp, by simp⟩
    · injection h1 with e1 _ e3
      subst e1 e3
      by_cases hn : l = []
      · subst hn
        obtain rfl : s = 0 := by simpa using hs
        by_cases hc0 : c = 0
        · rw [if_pos hc0]
          exact .inr ⟨a, c, rfl, fun h => absurd rfl h⟩
        · rw [if_neg hc0]
          exact .inr ⟨a.add 0, c, rfl, fun h => absurd rfl h⟩
      · obtain ⟨h3, h4, h5⟩ := h2 hn
        obtain ⟨b, o, sp⟩ := a
        obtain rfl : sp = none := h3
        have hc0 : c ≠ 0 := by have := List.length_pos_iff.2 hn; omega
        rw [if_neg hc0]
        refine .inr ⟨⟨b, o, none⟩, c, by rw [hl]; simp [Addr.add], fun _ => ⟨rfl, h4, fun i x hi => h5 i x ?_⟩⟩
        rw [List.getElem?_take] at hi
        split at hi
        · exact hi
        · cases hi
theorem slc_from (A : Option Addr) (c s : Nat) (l : List Int) (hs : s ≤ l.length) (hc : l.length ≤ c) : ∃ (A' : Option Addr) (c' : Nat), (∀ W, (Instr.slice 23 (.slice A l.length c) (some (.int .i64 s)) none none).run Try.prog W = .ok (.slice A' (l.length - s) c') W) ∧ ∀ W, SlI W (.slice A l.length c) l → SlI W (.slice A' (l.length - s) c') (l.drop s) := by
  have hz : ∀ W, (sizeOf (Try.prog.elem 23)).run Try.prog W = .ok 1 W := fun W => by go_simp
  refine ⟨if c = s then A else A.map (·.add s), c - s, fun W => ?_, fun W h => ?_⟩
  · rw [run_slice_l W 23 A l.length c (by kernel_rfl) .i64 (s : Int) (by omega) (by omega), hz]
    simp [Result.andThen, sliced]
  · have hl : (l.drop s).length = l.length - s := List.length_drop
    rw [← hl]
    rcases h with ⟨h1, h2⟩ | ⟨a, c2, h1, h2⟩
    · injection h1 with e1 e2 e3
      subst e1 e3 h2
      obtain rfl : s = 0 := by simpa using hs
      exact .inl ⟨by simp, by simp⟩
    · injection h1 with e1 _ e3
      subst e1 e3
      by_cases hn : l.drop s = []
      · by_cases hc0 : c = s
        · rw [if_pos hc0]
          exact .inr ⟨a, c - s, rfl, fun h => absurd hn h⟩
        · rw [if_neg hc0]
          exact .inr ⟨a.add s, c - s, rfl, fun h => absurd hn h⟩
      · have hp := List.length_pos_iff.2 hn
        obtain ⟨h3, h4, h5⟩ := h2 (fun e => by subst e; simp at hp)
        obtain ⟨b, o, sp⟩ := a
        obtain rfl : sp = none := h3
        rw [if_neg (by omega)]
        refine .inr ⟨⟨b, o + s, none⟩, c - s, by simp [Addr.add], fun _ => ⟨rfl, h4, fun i x hi => ?_⟩⟩
        rw [List.getElem?_drop] at hi
        have := h5 (s + i) x hi
        rw [← Nat.add_assoc] at this
        exact this
theorem job_sum {m : Nat} {j : JobT} (hj : JobOk m j) : (∀ x ∈ j.2.1, 0 ≤ x ∧ x ≤ 1000000) ∧ (∀ x ∈ j.2.2, 0 ≤ x ∧ x ≤ 1000000) ∧ j.2.1.length ≤ 8 ∧ j.2.2.length ≤ 8 :=
  ⟨fun x hx => by have := hj.tb x hx; omega, fun x hx => by have := hj.db x hx; omega, by have := hj.t; have := hj.few; omega, by have := hj.d; have := hj.few; omega⟩
theorem sum_small {l : List Int} (h : ∀ x ∈ l, 0 ≤ x ∧ x ≤ 1440) (hl : l.length ≤ 8) : 0 ≤ sumA l ∧ sumA l ≤ 11520 := by
  obtain ⟨h1, h2⟩ := sumA_bd h
  omega
theorem shBefore_ok (nm : ByteArray) (At Ad : Option Addr) (ct cd : Nat) (t d : List Int) (m s : Nat) (w : World) (ht : SlI w (.slice At t.length ct) t) (hd : SlI w (.slice Ad d.length cd) d) (hj : JobOk m (nm, t, d)) (hs : s < m) (hct : t.length ≤ ct) (hcd : d.length ≤ cd) :
    Calls Try.prog 35 #[jobV nm (.slice At t.length ct) (.slice Ad d.length cd), .int .i64 s] w fun e w' => e = .returned (.int .i64 (befJ (nm, t, d) s)) ∧ Below w.heap.size w w' := by
  unfold jobV
  obtain ⟨A1, c1, r1, -, k1⟩ := slc_to At ct s t (by have := hj.t; dsimp only at this; omega) hct
  obtain ⟨A2, c2, r2, -, k2⟩ := slc_to Ad cd s d (by have := hj.d; dsimp only at this; omega) hcd
  obtain ⟨b1, b2, l1, l2⟩ := job_sum hj
  dsimp only at b1 b2 l1 l2
  obtain ⟨W0, hW⟩ : ∃ W0, W0 = w.alloc (.cells #[.string nm, .slice At t.length ct, .slice Ad d.length cd] 31) := ⟨_, rfl⟩
  have rj : RowK W0 31 w.heap.size [.string nm, .slice At t.length ct, .slice Ad d.length cd] := by subst hW; exact heap_alloc_new w _
  have hB0 : Below w.heap.size w W0 := by subst hW; exact (Below.refl _ _).alloc (Nat.le_refl _) _
  have hky : W0.drew.cell? ⟨w.heap.size, 1, none⟩ = some (.slice At t.length ct) ∧ W0.drew.cell? ⟨w.heap.size, 2, none⟩ = some (.slice Ad d.length cd) := ⟨rj.cell (i := 1) rfl, rj.cell (i := 2) rfl⟩
  have kA := fun W (h : Below w.heap.size w W) => shSum_ok (t.take s) _ W (k1 W (ht.below h)) (fun x hx => b1 x (List.mem_of_mem_take hx)) (by rw [List.length_take]; omega)
  have kB := fun W (h : Below w.heap.size w W) => shSum_ok (d.take s) _ W (k2 W (hd.below h)) (fun x hx => b2 x (List.mem_of_mem_take hx)) (by rw [List.length_take]; omega)
  have q1 := sum_small (l := t.take s) (fun x hx => hj.tb x (List.mem_of_mem_take hx)) (by rw [List.length_take]; omega)
  have q2 := sum_small (l := d.take s) (fun x hx => hj.db x (List.mem_of_mem_take hx)) (by rw [List.length_take]; omega)
  have hsp : befJ (nm, t, d) s = sumA (t.take s) + sumA (d.take s) := rfl
  rw [hsp]
  obtain ⟨s1, hs1⟩ : ∃ s1, s1 = sumA (t.take s) := ⟨_, rfl⟩
  obtain ⟨s2, hs2⟩ : ∃ s2, s2 = sumA (d.take s) := ⟨_, rfl⟩
  rw [← hs1] at kA q1 ⊢
  rw [← hs2] at kB q2 ⊢
  have kA := kA _ hB0.drew
  have kB := kB _ hB0.drew
  have HW2 := Lib.hid (wrapC2 (n := s1 + s2) (by omega))
  have HX := Lib.hid hB0.drew
  obtain ⟨wa1, wa2⟩ := HW2.out
  clear hs1 hs2 q1 q2 hsp ht hd hj b1 b2 l1 l2 k1 k2 hB0 rj hs hct hcd
  go_enter Try.func35, Try.ntmps35
  go_wp2_with fail
  rw [← hW]
  clear hW
  go_region_held3 (fun V => V.cell? ⟨w.heap.size, 1, none⟩ = some (.slice At t.length ct) ∧ V.cell? ⟨w.heap.size, 2, none⟩ = some (.slice Ad d.length cd)) (first | exact hky | go_keep)
    (first
      | (go_at_call 31; (first | with_reducible refine kA.mono ?_ | with_reducible refine kB.mono ?_); rintro e v1 ⟨rfl, hv1⟩; obtain rfl := hv1))
  rename_i hHeld
  clear hHeld hky
  go_wp2_with fail
  go_ret
  exact ⟨rfl, HX.out⟩
theorem shAfter_ok (nm : ByteArray) (At Ad : Option Addr) (ct cd : Nat) (t d : List Int) (m s : Nat) (w : World) (ht : SlI w (.slice At t.length ct) t) (hd : SlI w (.slice Ad d.length cd) d) (hj : JobOk m (nm, t, d)) (hs : s < m) (hct : t.length ≤ ct) (hcd : d.length ≤ cd) :
    Calls Try.prog 37 #[jobV nm (.slice At t.length ct) (.slice Ad d.length cd), .int .i64 s] w fun e w' => e = .returned (.int .i64 (aftJ (nm, t, d) s)) ∧ Below w.heap.size w w' := by
  unfold jobV
  obtain ⟨A1, c1, r1, k1⟩ := slc_from At ct (s + 1) t (by have := hj.t; dsimp only at this; omega) hct
  obtain ⟨A2, c2, r2, k2⟩ := slc_from Ad cd s d (by have := hj.d; dsimp only at this; omega) hcd
  obtain ⟨b1, b2, l1, l2⟩ := job_sum hj
  dsimp only at b1 b2 l1 l2
  have hcs : ((s + 1 : Nat) : Int) = (s : Int) + 1 := by omega
  rw [hcs] at r1
  have HWS := Lib.hid (wrapsV (show s < 1048576 by have := hj.few; omega))
  obtain ⟨W0, hW⟩ : ∃ W0, W0 = w.alloc (.cells #[.string nm, .slice At t.length ct, .slice Ad d.length cd] 31) := ⟨_, rfl⟩
  have rj : RowK W0 31 w.heap.size [.string nm, .slice At t.length ct, .slice Ad d.length cd] := by subst hW; exact heap_alloc_new w _
  have hB0 : Below w.heap.size w W0 := by subst hW; exact (Below.refl _ _).alloc (Nat.le_refl _) _
  have hky : W0.drew.cell? ⟨w.heap.size, 1, none⟩ = some (.slice At t.length ct) ∧ W0.drew.cell? ⟨w.heap.size, 2, none⟩ = some (.slice Ad d.length cd) := ⟨rj.cell (i := 1) rfl, rj.cell (i := 2) rfl⟩
  have kA := fun W (h : Below w.heap.size w W) => shSum_ok (t.drop (s + 1)) _ W (k1 W (ht.below h)) (fun x hx => b1 x (List.mem_of_mem_drop hx)) (by rw [List.length_drop]; omega)
  have kB := fun W (h : Below w.heap.size w W) => shSum_ok (d.drop s) _ W (k2 W (hd.below h)) (fun x hx => b2 x (List.mem_of_mem_drop hx)) (by rw [List.length_drop]; omega)
  have q1 := sum_small (l := t.drop (s + 1)) (fun x hx => hj.tb x (List.mem_of_mem_drop hx)) (by rw [List.length_drop]; omega)
  have q2 := sum_small (l := d.drop s) (fun x hx => hj.db x (List.mem_of_mem_drop hx)) (by rw [List.length_drop]; omega)
  have hsp : aftJ (nm, t, d) s = sumA (t.drop (s + 1)) + sumA (d.drop s) := rfl
  rw [hsp]
  obtain ⟨s1, hs1⟩ : ∃ s1, s1 = sumA (t.drop (s + 1)) := ⟨_, rfl⟩
  obtain ⟨s2, hs2⟩ : ∃ s2, s2 = sumA (d.drop s) := ⟨_, rfl⟩
  rw [← hs1] at kA q1 ⊢
  rw [← hs2] at kB q2 ⊢
  have kA := kA _ hB0.drew
  have kB := kB _ hB0.drew
  have HW2 := Lib.hid (wrapC2 (n := s1 + s2) (by omega))
  have HX := Lib.hid hB0.drew
  obtain ⟨wa1, wa2⟩ := HW2.out
  obtain ⟨ws1, ws2⟩ := HWS.out
  clear hs1 hs2 q1 q2 hsp ht hd hj b1 b2 l1 l2 k1 k2 hB0 rj hs hct hcd hcs
  go_enter Try.func37, Try.ntmps37
  go_wp2_with fail
  rw [← hW]
  clear hW
  go_region_held3 (fun V => V.cell? ⟨w.heap.size, 1, none⟩ = some (.slice At t.length ct) ∧ V.cell? ⟨w.heap.size, 2, none⟩ = some (.slice Ad d.length cd)) (first | exact hky | go_keep)
    (first
      | (go_at_call 31; (first | with_reducible refine kA.mono ?_ | with_reducible refine kB.mono ?_); rintro e v1 ⟨rfl, hv1⟩; obtain rfl := hv1))
  rename_i hHeld
  clear hHeld hky
  go_wp2_with fail
  go_ret
  exact ⟨rfl, HX.out⟩
theorem shAll_ok (nm : ByteArray) (At Ad : Option Addr) (ct cd : Nat) (t d : List Int) (m : Nat) (w : World) (ht : SlI w (.slice At t.length ct) t) (hd : SlI w (.slice Ad d.length cd) d) (hj : JobOk m (nm, t, d)) :
    Calls Try.prog 30 #[jobV nm (.slice At t.length ct) (.slice Ad d.length cd)] w fun e w' => e = .returned (.int .i64 (allJ (nm, t, d))) ∧ Below w.heap.size w w' := by
  unfold jobV
  obtain ⟨b1, b2, l1, l2⟩ := job_sum hj
  dsimp only at b1 b2 l1 l2
  obtain ⟨W0, hW⟩ : ∃ W0, W0 = w.alloc (.cells #[.string nm, .slice At t.length ct, .slice Ad d.length cd] 31) := ⟨_, rfl⟩
  have rj : RowK W0 31 w.heap.size [.string nm, .slice At t.length ct, .slice Ad d.length cd] := by subst hW; exact heap_alloc_new w _
  have hB0 : Below w.heap.size w W0 := by subst hW; exact (Below.refl _ _).alloc (Nat.le_refl _) _
  have hky : W0.drew.cell? ⟨w.heap.size, 1, none⟩ = some (.slice At t.length ct) ∧ W0.drew.cell? ⟨w.heap.size, 2, none⟩ = some (.slice Ad d.length cd) := ⟨rj.cell (i := 1) rfl, rj.cell (i := 2) rfl⟩
  have kA := fun W (h : Below w.heap.size w W) => shSum_ok t _ W (ht.below h) b1 (by omega)
  have kB := fun W (h : Below w.heap.size w W) => shSum_ok d _ W (hd.below h) b2 (by omega)
  have q1 := sum_small (l := t) (fun x hx => hj.tb x hx) l1
  have q2 := sum_small (l := d) (fun x hx => hj.db x hx) l2
  have hsp : allJ (nm, t, d) = sumA t + sumA d := rfl
  rw [hsp]
  obtain ⟨s1, hs1⟩ : ∃ s1, s1 = sumA t := ⟨_, rfl⟩
  obtain ⟨s2, hs2⟩ : ∃ s2, s2 = sumA d := ⟨_, rfl⟩
  rw [← hs1] at kA q1 ⊢
  rw [← hs2] at kB q2 ⊢
  have kA := kA _ hB0.drew
  have kB := kB _ hB0.drew
  have HW2 := Lib.hid (wrapC2 (n := s1 + s2) (by omega))
  have HX := Lib.hid hB0.drew
  obtain ⟨wa1, wa2⟩ := HW2.out
  clear hs1 hs2 q1 q2 hsp ht hd hj b1 b2 l1 l2 hB0 rj 
  go_enter Try.func30, Try.ntmps30
  go_wp2_with fail
  rw [← hW]
  clear hW
  go_region_held3 (fun V => V.cell? ⟨w.heap.size, 1, none⟩ = some (.slice At t.length ct) ∧ V.cell? ⟨w.heap.size, 2, none⟩ = some (.slice Ad d.length cd)) (first | exact hky | go_keep)
    (first
      | (go_at_call 31; (first | with_reducible refine kA.mono ?_ | with_reducible refine kB.mono ?_); rintro e v1 ⟨rfl, hv1⟩; obtain rfl := hv1))
  rename_i hHeld
  clear hHeld hky
  go_wp2_with fail
  go_ret
  exact ⟨rfl, HX.out⟩
theorem shBnd1_ok (nm : ByteArray) (At Ad : Option Addr) (ct cd : Nat) (t d : List Int) (m s c : Nat) (w : World) (ht : SlI w (.slice At t.length ct) t) (_hd : SlI w (.slice Ad d.length cd) d) (hj : JobOk m (nm, t, d)) (hs : s < m) (_hct : t.length ≤ ct) (_hcd : d.length ≤ cd) (hc : w.cell? ⟨c, 0, none⟩ = some (.int .i64 s)) (hcl : c < w.heap.size) :
    Calls Try.prog 32 #[jobV nm (.slice At t.length ct) (.slice Ad d.length cd), .pointer (some ⟨c, 0, none⟩)] w fun e w' => e = .returned (.int .i64 (at0 t s)) ∧ Below w.heap.size w w' := by
  obtain ⟨b, o, x, hA, -, hb, hx, rx⟩ := ht.cells (k := s) (by have := hj.t; dsimp only at this; omega)
  subst hA
  have hxa := at0_some hx
  rw [hxa]
  have htl : t.length = m := hj.t
  have hs0 : (0 : Int) ≤ s := by omega
  have hs1 : (s : Int) < t.length := by omega
  obtain ⟨W0, hW⟩ : ∃ W0, W0 = w.alloc (.cells #[.string nm, .slice (some ⟨b, o, none⟩) t.length ct, .slice Ad d.length cd] 31) := ⟨_, rfl⟩
  have rj : RowK W0 31 w.heap.size [.string nm, .slice (some ⟨b, o, none⟩) t.length ct, .slice Ad d.length cd] := by subst hW; exact heap_alloc_new w _
  have hB0 : Below w.heap.size w W0 := by subst hW; exact (Below.refl _ _).alloc (Nat.le_refl _) _
  have hbn : b ≠ w.heap.size := Nat.ne_of_lt hb
  have hcn : c ≠ w.heap.size := Nat.ne_of_lt hcl
  unfold jobV
  clear ht hj hs rj hx hxa htl
  go_enter Try.func32, Try.ntmps32
  go_wp2_with fail
  try rw [← hW]
  go_ret
  exact ⟨rfl, by first | exact hB0 | (rw [← hW]; exact hB0) | (subst hW; exact hB0)⟩
theorem shBnd2_ok (nm : ByteArray) (At Ad : Option Addr) (ct cd : Nat) (t d : List Int) (m s c : Nat) (w : World) (ht : SlI w (.slice At t.length ct) t) (hd : SlI w (.slice Ad d.length cd) d) (hj : JobOk m (nm, t, d)) (hs : s < m) (hct : t.length ≤ ct) (hcd : d.length ≤ cd) (hc : w.cell? ⟨c, 0, none⟩ = some (.int .i64 s)) (hcl : c < w.heap.size) :
    Calls Try.prog 34 #[jobV nm (.slice At t.length ct) (.slice Ad d.length cd), .pointer (some ⟨c, 0, none⟩)] w fun e w' => e = .returned (.int .i64 (befJ (nm, t, d) s)) ∧ Below w.heap.size w w' := by
  obtain ⟨W0, hW⟩ : ∃ W0, W0 = w.alloc (.cells #[.string nm, .slice At t.length ct, .slice Ad d.length cd] 31) := ⟨_, rfl⟩
  have rj : RowK W0 31 w.heap.size [.string nm, .slice At t.length ct, .slice Ad d.length cd] := by subst hW; exact heap_alloc_new w _
  have hB0 : Below w.heap.size w W0 := by subst hW; exact (Below.refl _ _).alloc (Nat.le_refl _) _
  have kB := shBefore_ok nm At Ad ct cd t d m s W0 (ht.below hB0) (hd.below hB0) hj hs hct hcd
  unfold jobV at kB ⊢
  obtain ⟨r, hr⟩ : ∃ r, r = befJ (nm, t, d) s := ⟨_, rfl⟩
  rw [← hr] at kB ⊢
  clear hr ht hd hj hs hct hcd rj
  go_enter Try.func34, Try.ntmps34
  go_wp2_with fail
  rw [← hW]
  clear hW
  refine kB.mono ?_
  rintro e w2 ⟨rfl, hB2⟩
  go_wp2_with fail
  go_ret
  exact ⟨rfl, hB0.trans (hB2.mono hB0.size)⟩
theorem shBnd3_ok (nm : ByteArray) (At Ad : Option Addr) (ct cd : Nat) (t d : List Int) (m s c : Nat) (w : World) (ht : SlI w (.slice At t.length ct) t) (hd : SlI w (.slice Ad d.length cd) d) (hj : JobOk m (nm, t, d)) (hs : s < m) (hct : t.length ≤ ct) (hcd : d.length ≤ cd) (hc : w.cell? ⟨c, 0, none⟩ = some (.int .i64 s)) (hcl : c < w.heap.size) :
    Calls Try.prog 36 #[jobV nm (.slice At t.length ct) (.slice Ad d.length cd), .pointer (some ⟨c, 0, none⟩)] w fun e w' => e = .returned (.int .i64 (aftJ (nm, t, d) s)) ∧ Below w.heap.size w w' := by
  obtain ⟨W0, hW⟩ : ∃ W0, W0 = w.alloc (.cells #[.string nm, .slice At t.length ct, .slice Ad d.length cd] 31) := ⟨_, rfl⟩
  have rj : RowK W0 31 w.heap.size [.string nm, .slice At t.length ct, .slice Ad d.length cd] := by subst hW; exact heap_alloc_new w _
  have hB0 : Below w.heap.size w W0 := by subst hW; exact (Below.refl _ _).alloc (Nat.le_refl _) _
  have kB := shAfter_ok nm At Ad ct cd t d m s W0 (ht.below hB0) (hd.below hB0) hj hs hct hcd
  unfold jobV at kB ⊢
  obtain ⟨r, hr⟩ : ∃ r, r = aftJ (nm, t, d) s := ⟨_, rfl⟩
  rw [← hr] at kB ⊢
  clear hr ht hd hj hs hct hcd rj
  go_enter Try.func36, Try.ntmps36
  go_wp2_with fail
  rw [← hW]
  clear hW
  refine kB.mono ?_
  rintro e w2 ⟨rfl, hB2⟩
  go_wp2_with fail
  go_ret
  exact ⟨rfl, hB0.trans (hB2.mono hB0.size)⟩
end Go.Proofs
