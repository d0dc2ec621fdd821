import Derived.Test.YtokfniicbeemdaaGreatDoorOrdS
section
/- Jobs: sums, the least and the greatest of some numbers; what a job needs before and after a station. -/
namespace Go.Proofs
open Go.RowKit Go.MapKept
set_option maxHeartbeats 16000000
set_option maxRecDepth 1000000
theorem sumK_all (l : List Int) : sumK l l.length = sumA l := rfl
theorem sumK_take (l : List Int) (k : Nat) : sumK l k = sumA (l.take k) := by
  unfold sumA sumK
  rw [List.take_length]
theorem shSum_ok (l : List Int) (v : Value) (w : World) (hl : SlI w v l) (hb : ∀ x ∈ l, 0 ≤ x ∧ x ≤ 1000000) (hn : l.length ≤ 1000) :
    Calls Tryz.prog 75 #[v] w fun e w' => e = .returned (.int .i64 (sumA l)) ∧ w' = w := by
  obtain ⟨A, c, rfl⟩ := hl.form
  have HN := Lib.hid hn
  have HB := Lib.hid hb
  have HL := Lib.hid hl
  clear hn hb hl
  go_enter Tryz.func75, Tryz.ntmps75
  go_wp2_with fail
  go_loopw [3, 8] (fun s i wr => ∃ k : Nat, k ≤ l.length ∧ i = .int .i64 k ∧ s = .int .i64 (sumK l k) ∧ wr = w) (fun _ i _ => l.length - (intOf i).toNat)
  case atStart => exact ⟨0, Nat.zero_le _, rfl, rfl, rfl⟩
  case round =>
    obtain ⟨k, hk, rfl, rfl, rfl⟩ := hrel
    rcases Nat.lt_or_eq_of_le hk with hkn | rfl
    · obtain ⟨b, o, x, rfl, -, hb, hx, rx⟩ := HL.out.cells hkn
      have hsk := sumK_succ hx
      have hbd := sumA_bd (B := 1000000) (l := l.take k) fun y hy => HB.out y (List.mem_of_mem_take hy)
      rw [← sumK_take, List.length_take] at hbd
      have hxb := HB.out x (List.mem_of_getElem? hx)
      have hi0 : (0 : Int) ≤ k := by omega
      have hi1 : (k : Int) < l.length := by omega
      have HK := Lib.hid (show k + 1 ≤ l.length from hkn)
      have HM := Lib.hid (show l.length - (k + 1) < l.length - k by omega)
      have HSK := Lib.hid hsk
      have hle : (min k l.length : Nat) ≤ 1000 := by have := HN.out; omega
      have hcast : ((min k l.length : Nat) : Int) ≤ 1000 := by omega
      generalize ((min k l.length : Nat) : Int) = mk at hbd hcast
      obtain ⟨sk, hsk2⟩ : ∃ sk, sk = sumK l k := ⟨_, rfl⟩
      rw [← hsk2] at hbd
      have HS2 := Lib.hid hsk2
      have hwr := wrapC2 (n := sk + x) (by omega)
      obtain ⟨wk1, wk2⟩ := wrapsV (show k < 1048576 by have := HN.out; omega)
      obtain ⟨wa1, wa2⟩ := hwr
      rw [← hsk2]
      clear hx hsk hbd hxb hsk2 hcast hle
      go_wp2_with fail
      go_roundw
      case rel => exact ⟨k + 1, HK.out, by simp, by rw [HSK.out, ← HS2.out], by first | trivial | rfl⟩
      case measure => exact HM.out
    · go_wp2_with fail
      go_ret
      exact ⟨rfl, rfl⟩
def maxK (l : List Int) (k : Nat) : Int := (l.take k).foldl max (at0 l 0)
theorem maxK_succ {l : List Int} {k : Nat} {x : Int} (h : l[k]? = some x) : maxK l (k + 1) = max (maxK l k) x := by
  unfold maxK
  rw [List.take_add_one, h]
  simp
theorem maxK_all (l : List Int) : maxK l l.length = maxL l := by
  unfold maxK
  rw [List.take_length]
  cases l with
  | nil => rfl
  | cons x l =>
    show (x :: l).foldl max x = l.foldl max x
    rw [List.foldl_cons, show max x x = x by omega]
theorem minK_one {l : List Int} (h : 0 < l.length) : minK l 1 = at0 l 0 := by
  rw [minK_succ (List.getElem?_eq_getElem h)]
  have e : at0 l 0 = l[0] := at0_some (List.getElem?_eq_getElem h)
  show min (at0 l 0) l[0] = _
  omega
theorem maxK_one {l : List Int} (h : 0 < l.length) : maxK l 1 = at0 l 0 := by
  rw [maxK_succ (List.getElem?_eq_getElem h)]
  have e : at0 l 0 = l[0] := at0_some (List.getElem?_eq_getElem h)
  show max (at0 l 0) l[0] = _
  omega
theorem maxI_ok (l : List Int) (v : Value) (w : World) (hl : SlI w v l) (hp : 0 < l.length) (hn : l.length ≤ 1000) :
    Calls Tryz.prog 72 #[v] w fun e w' => e = .returned (.int .i64 (maxL l)) ∧ w' = w := by
  obtain ⟨A, c, rfl⟩ := hl.form
  obtain ⟨b0, o0, x0, rfl, -, hb0, hx0, rx0⟩ := hl.cells hp
  have hx00 := maxK_one hp
  rw [at0_some hx0] at hx00
  have hn1 : decide ((l.length : Int) < 1) = false := decide_eq_false (by omega)
  rw [Nat.add_zero] at rx0
  have hi00 : (0 : Int) < l.length := by omega
  have HN := Lib.hid hn
  have HL := Lib.hid hl
  have HX0 := Lib.hid hx00
  have HP := Lib.hid hp
  clear hn hl hx00 hx0 hp
  go_enter Tryz.func72, Tryz.ntmps72
  go_wp2_with fail
  go_loopw [3, 4] (fun s i wr => ∃ k : Nat, k + 1 ≤ l.length ∧ i = .int .i64 ((k : Int) + 1) ∧ s = .int .i64 (maxK l (k + 1)) ∧ wr = w) (fun _ i _ => l.length + 1 - (intOf i).toNat)
  case atStart => exact ⟨0, HP.out, rfl, by rw [HX0.out], rfl⟩
  case round =>
    obtain ⟨k, hk, rfl, rfl, rfl⟩ := hrel
    clear rx0
    rcases Nat.lt_or_eq_of_le hk with hkn | hke
    · obtain ⟨b, o, x, e1, -, hb, hx, rx⟩ := HL.out.cells hkn
      injection e1 with e1
      injection e1 with e1 e2
      subst e1 e2
      have hsk := maxK_succ hx
      have hi0 : (0 : Int) ≤ (k : Int) + 1 := by omega
      have hi1 : (k : Int) + 1 < l.length := by omega
      have HK := Lib.hid (show k + 1 + 1 ≤ l.length from hkn)
      have HM := Lib.hid (show l.length + 1 - (k + 1 + 1) < l.length + 1 - (k + 1) by omega)
      have HSK := Lib.hid hsk
      obtain ⟨sk, hsk2⟩ : ∃ sk, sk = maxK l (k + 1) := ⟨_, rfl⟩
      have HS2 := Lib.hid hsk2
      have wk1 : wrap64 ((k : Int) + 1 + 1) = (k : Int) + 1 + 1 := wrap64_small (by have := HN.out; omega)
      have wk2 : IntKind.i64.wrap ((k : Int) + 1 + 1) = (k : Int) + 1 + 1 := wrap_small (by have := HN.out; omega)
      rw [← hsk2]
      clear hx hsk hsk2
      rcases Int.lt_or_le sk x with hlt | hlt
      · have HV := Lib.hid (show max sk x = x by omega)
        go_wp2_with fail
        go_roundw
        case rel => exact ⟨k + 1, HK.out, by simp, by rw [HSK.out, ← HS2.out, HV.out], by first | trivial | rfl⟩
        case measure => first | exact HM.out | (have := HM.out; simp only [intOf]; omega)
      · have HV := Lib.hid (show max sk x = sk by omega)
        go_wp2_with fail
        go_roundw
        case rel => exact ⟨k + 1, HK.out, by simp, by rw [HSK.out, ← HS2.out, HV.out], by first | trivial | rfl⟩
        case measure => first | exact HM.out | (have := HM.out; simp only [intOf]; omega)
    · have HE : RowKit.Hid (maxK l (k + 1) = maxL l) := Lib.hid (by rw [hke, maxK_all])
      have hend : decide ((k : Int) + 1 < (l.length : Int)) = false := decide_eq_false (by omega)
      obtain ⟨r, hr⟩ : ∃ r, r = maxK l (k + 1) := ⟨_, rfl⟩
      rw [← hr]
      have HR := Lib.hid (hr.trans HE.out)
      clear hr
      have hke2 : (l.length : Int) = (k : Int) + 1 := by omega
      clear hke HE hk
      go_wp2_with fail
      go_ret
      exact ⟨by rw [← HR.out]; rfl, rfl⟩
theorem minI_ok (l : List Int) (v : Value) (w : World) (hl : SlI w v l) (hp : 0 < l.length) (hn : l.length ≤ 1000) :
    Calls Tryz.prog 77 #[v] w fun e w' => e = .returned (.int .i64 (minL l)) ∧ w' = w := by
  obtain ⟨A, c, rfl⟩ := hl.form
  obtain ⟨b0, o0, x0, rfl, -, hb0, hx0, rx0⟩ := hl.cells hp
  have hx00 := minK_one hp
  rw [at0_some hx0] at hx00
  have hn1 : decide ((l.length : Int) < 1) = false := decide_eq_false (by omega)
  rw [Nat.add_zero] at rx0
  have hi00 : (0 : Int) < l.length := by omega
  have HN := Lib.hid hn
  have HL := Lib.hid hl
  have HX0 := Lib.hid hx00
  have HP := Lib.hid hp
  clear hn hl hx00 hx0 hp
  go_enter Tryz.func77, Tryz.ntmps77
  go_wp2_with fail
  go_loopw [3, 4] (fun s i wr => ∃ k : Nat, k + 1 ≤ l.length ∧ i = .int .i64 ((k : Int) + 1) ∧ s = .int .i64 (minK l (k + 1)) ∧ wr = w) (fun _ i _ => l.length + 1 - (intOf i).toNat)
  case atStart => exact ⟨0, HP.out, rfl, by rw [HX0.out], rfl⟩
  case round =>
    obtain ⟨k, hk, rfl, rfl, rfl⟩ := hrel
    clear rx0
    rcases Nat.lt_or_eq_of_le hk with hkn | hke
    · obtain ⟨b, o, x, e1, -, hb, hx, rx⟩ := HL.out.cells hkn
      injection e1 with e1
      injection e1 with e1 e2
      subst e1 e2
      have hsk := minK_succ hx
      have hi0 : (0 : Int) ≤ (k : Int) + 1 := by omega
      have hi1 : (k : Int) + 1 < l.length := by omega
      have HK := Lib.hid (show k + 1 + 1 ≤ l.length from hkn)
      have HM := Lib.hid (show l.length + 1 - (k + 1 + 1) < l.length + 1 - (k + 1) by omega)
      have HSK := Lib.hid hsk
      obtain ⟨sk, hsk2⟩ : ∃ sk, sk = minK l (k + 1) := ⟨_, rfl⟩
      have HS2 := Lib.hid hsk2
      have wk1 : wrap64 ((k : Int) + 1 + 1) = (k : Int) + 1 + 1 := wrap64_small (by have := HN.out; omega)
      have wk2 : IntKind.i64.wrap ((k : Int) + 1 + 1) = (k : Int) + 1 + 1 := wrap_small (by have := HN.out; omega)
      rw [← hsk2]
      clear hx hsk hsk2
      rcases Int.lt_or_le x sk with hlt | hlt
      · have HV := Lib.hid (show min sk x = x by omega)
        go_wp2_with fail
        go_roundw
        case rel => exact ⟨k + 1, HK.out, by simp, by rw [HSK.out, ← HS2.out, HV.out], by first | trivial | rfl⟩
        case measure => first | exact HM.out | (have := HM.out; simp only [intOf]; omega)
      · have HV := Lib.hid (show min sk x = sk by omega)
        go_wp2_with fail
        go_roundw
        case rel => exact ⟨k + 1, HK.out, by simp, by rw [HSK.out, ← HS2.out, HV.out], by first | trivial | rfl⟩
        case measure => first | exact HM.out | (have := HM.out; simp only [intOf]; omega)
    · have HE : RowKit.Hid (minK l (k + 1) = minL l) := Lib.hid (by rw [hke, minK_all])
      have hend : decide ((k : Int) + 1 < (l.length : Int)) = false := decide_eq_false (by omega)
      obtain ⟨r, hr⟩ : ∃ r, r = minK l (k + 1) := ⟨_, rfl⟩
      rw [← hr]
      have HR := Lib.hid (hr.trans HE.out)
      clear hr
      have hke2 : (l.length : Int) = (k : Int) + 1 := by omega
      clear hke HE hk
      go_wp2_with fail
      go_ret
      exact ⟨by rw [← HR.out]; rfl, rfl⟩
end Go.Proofs
end

section
/- Jobs: what a job needs before and after a station, and altogether. -/
namespace Go.Proofs
open Go.RowKit Go.MapKept
set_option maxHeartbeats 16000000
set_option maxRecDepth 1000000
theorem slc_to (A : Option Addr) (c s : Nat) (l : List Int) (hs : s ≤ l.length) (hc : l.length ≤ c) : ∃ (A' : Option Addr) (c' : Nat), (∀ W, (Instr.slice 23 (.slice A l.length c) none (some (.int .i64 s)) none).run Tryz.prog W = .ok (.slice A' s c') W) ∧ s ≤ c' ∧ ∀ W, SlI W (.slice A l.length c) l → SlI W (.slice A' s c') (l.take s) := by
  have hz : ∀ W, (sizeOf (Tryz.prog.elem 23)).run Tryz.prog W = .ok 1 W := fun W => by go_simp
  refine ⟨if c = 0 then A else A.map (·.add 0), c, fun W => ?_, by omega, fun W h => ?_⟩
  · rw [run_slice_h W 23 A l.length c (by kernel_rfl) .i64 (s : Int) (by omega) (by omega), hz]
    simp [Result.andThen, sliced]
  · have hl : (l.take s).length = s := by rw [List.length_take]; omega
    rcases h with ⟨h1, h2⟩ | ⟨a, c2, h1, h2⟩
    · injection h1 with e1 e2 e3
      subst e1 e3 h2
      obtain rfl : s = 0 := by simpa using hs
      exact .inl ⟨by simp, by simp⟩
    · injection h1 with e1 _ e3
      subst e1 e3
      by_cases hn : l = []
      · subst hn
        obtain rfl : s = 0 := by simpa using hs
        by_cases hc0 : c = 0
        · rw [if_pos hc0]
          exact .inr ⟨a, c, rfl, fun h => absurd rfl h⟩
        · rw [if_neg hc0]
          exact .inr ⟨a.add 0, c, rfl, fun h => absurd rfl h⟩
      · obtain ⟨h3, h4, h5⟩ := h2 hn
        obtain ⟨b, o, sp⟩ := a
        obtain rfl : sp = none := h3
        have hc0 : c ≠ 0 := by have := List.length_pos_iff.2 hn; omega
        rw [if_neg hc0]
        refine .inr ⟨⟨b, o, none⟩, c, by rw [hl]; simp [Addr.add], fun _ => ⟨rfl, h4, fun i x hi => h5 i x ?_⟩⟩
        rw [List.getElem?_take] at hi
        split at hi
        · exact hi
        · cases hi
theorem slc_from (A : Option Addr) (c s : Nat) (l : List Int) (hs : s ≤ l.length) (hc : l.length ≤ c) : ∃ (A' : Option Addr) (c' : Nat), (∀ W, (Instr.slice 23 (.slice A l.length c) (some (.int .i64 s)) none none).run Tryz.prog W = .ok (.slice A' (l.length - s) c') W) ∧ ∀ W, SlI W (.slice A l.length c) l → SlI W (.slice A' (l.length - s) c') (l.drop s) := by
  have hz : ∀ W, (sizeOf (Tryz.prog.elem 23)).run Tryz.prog W = .ok 1 W := fun W => by go_simp
  refine ⟨if c = s then A else A.map (·.add s), c - s, fun W => ?_, fun W h => ?_⟩
  · rw [run_slice_l W 23 A l.length c (by kernel_rfl) .i64 (s : Int) (by omega) (by omega), hz]
    simp [Result.andThen, sliced]
  · have hl : (l.drop s).length = l.length - s := List.length_drop
    rw [← hl]
    rcases h with ⟨h1, h2⟩ | ⟨a, c2, h1, h2⟩
    · injection h1 with e1 e2 e3
      subst e1 e3 h2
      obtain rfl : s = 0 := by simpa using hs
      exact .inl ⟨by simp, by simp⟩
    · injection h1 with e1 _ e3
      subst e1 e3
      by_cases hn : l.drop s = []
      · by_cases hc0 : c = s
        · rw [if_pos hc0]
          exact .inr ⟨a, c - s, rfl, fun h => absurd hn h⟩
        · rw [if_neg hc0]
          exact .inr ⟨a.add s, c - s, rfl, fun h => absurd hn h⟩
      · have hp := List.length_pos_iff.2 hn
        obtain ⟨h3, h4, h5⟩ := h2 (fun e => by subst e; simp at hp)
        obtain ⟨b, o, sp⟩ := a
        obtain rfl : sp = none := h3
        rw [if_neg (by omega)]
        refine .inr ⟨⟨b, o + s, none⟩, c - s, by simp [Addr.add], fun _ => ⟨rfl, h4, fun i x hi => ?_⟩⟩
        rw [List.getElem?_drop] at hi
        have := h5 (s + i) x hi
        rw [← Nat.add_assoc] at this
        exact this
theorem job_sum {m : Nat} {j : JobT} (hj : JobOk m j) : (∀ x ∈ j.2.1, 0 ≤ x ∧ x ≤ 1000000) ∧ (∀ x ∈ j.2.2, 0 ≤ x ∧ x ≤ 1000000) ∧ j.2.1.length ≤ 8 ∧ j.2.2.length ≤ 8 :=
  ⟨fun x hx => by have := hj.tb x hx; omega, fun x hx => by have := hj.db x hx; omega, by have := hj.t; have := hj.few; omega, by have := hj.d; have := hj.few; omega⟩
theorem sum_small {l : List Int} (h : ∀ x ∈ l, 0 ≤ x ∧ x ≤ 1440) (hl : l.length ≤ 8) : 0 ≤ sumA l ∧ sumA l ≤ 11520 := by
  obtain ⟨h1, h2⟩ := sumA_bd h
  omega
theorem shBefore_ok (nm : ByteArray) (At Ad : Option Addr) (ct cd : Nat) (t d : List Int) (m s : Nat) (w : World) (ht : SlI w (.slice At t.length ct) t) (hd : SlI w (.slice Ad d.length cd) d) (hj : JobOk m (nm, t, d)) (hs : s < m) (hct : t.length ≤ ct) (hcd : d.length ≤ cd) :
    Calls Tryz.prog 79 #[jobV nm (.slice At t.length ct) (.slice Ad d.length cd), .int .i64 s] w fun e w' => e = .returned (.int .i64 (befJ (nm, t, d) s)) ∧ Below w.heap.size w w' := by
  unfold jobV
  obtain ⟨A1, c1, r1, -, k1⟩ := slc_to At ct s t (by have := hj.t; dsimp only at this; omega) hct
  obtain ⟨A2, c2, r2, -, k2⟩ := slc_to Ad cd s d (by have := hj.d; dsimp only at this; omega) hcd
  obtain ⟨b1, b2, l1, l2⟩ := job_sum hj
  dsimp only at b1 b2 l1 l2
  obtain ⟨W0, hW⟩ : ∃ W0, W0 = w.alloc (.cells #[.string nm, .slice At t.length ct, .slice Ad d.length cd] 70) := ⟨_, rfl⟩
  have rj : RowK W0 70 w.heap.size [.string nm, .slice At t.length ct, .slice Ad d.length cd] := by subst hW; exact heap_alloc_new w _
  have hB0 : Below w.heap.size w W0 := by subst hW; exact (Below.refl _ _).alloc (Nat.le_refl _) _
  have hky : W0.drew.cell? ⟨w.heap.size, 1, none⟩ = some (.slice At t.length ct) ∧ W0.drew.cell? ⟨w.heap.size, 2, none⟩ = some (.slice Ad d.length cd) := ⟨rj.cell (i := 1) rfl, rj.cell (i := 2) rfl⟩
  have kA := fun W (h : Below w.heap.size w W) => shSum_ok (t.take s) _ W (k1 W (ht.below h)) (fun x hx => b1 x (List.mem_of_mem_take hx)) (by rw [List.length_take]; omega)
  have kB := fun W (h : Below w.heap.size w W) => shSum_ok (d.take s) _ W (k2 W (hd.below h)) (fun x hx => b2 x (List.mem_of_mem_take hx)) (by rw [List.length_take]; omega)
  have q1 := sum_small (l := t.take s) (fun x hx => hj.tb x (List.mem_of_mem_take hx)) (by rw [List.length_take]; omega)
  have q2 := sum_small (l := d.take s) (fun x hx => hj.db x (List.mem_of_mem_take hx)) (by rw [List.length_take]; omega)
  have hsp : befJ (nm, t, d) s = sumA (t.take s) + sumA (d.take s) := rfl
  rw [hsp]
  obtain ⟨s1, hs1⟩ : ∃ s1, s1 = sumA (t.take s) := ⟨_, rfl⟩
  obtain ⟨s2, hs2⟩ : ∃ s2, s2 = sumA (d.take s) := ⟨_, rfl⟩
  rw [← hs1] at kA q1 ⊢
  rw [← hs2] at kB q2 ⊢
  have kA := kA _ hB0.drew
  have kB := kB _ hB0.drew
  have HW2 := Lib.hid (wrapC2 (n := s1 + s2) (by omega))
  have HX := Lib.hid hB0.drew
  obtain ⟨wa1, wa2⟩ := HW2.out
  clear hs1 hs2 q1 q2 hsp ht hd hj b1 b2 l1 l2 k1 k2 hB0 rj hs hct hcd
  go_enter Tryz.func79, Tryz.ntmps79
  go_wp2_with fail
  rw [← hW]
  clear hW
  go_region_held3 (fun V => V.cell? ⟨w.heap.size, 1, none⟩ = some (.slice At t.length ct) ∧ V.cell? ⟨w.heap.size, 2, none⟩ = some (.slice Ad d.length cd)) (first | exact hky | go_keep)
    (first
      | (go_at_call 75; (first | with_reducible refine kA.mono ?_ | with_reducible refine kB.mono ?_); rintro e v1 ⟨rfl, hv1⟩; obtain rfl := hv1))
  rename_i hHeld
  clear hHeld hky
  go_wp2_with fail
  go_ret
  exact ⟨rfl, HX.out⟩
theorem shAfter_ok (nm : ByteArray) (At Ad : Option Addr) (ct cd : Nat) (t d : List Int) (m s : Nat) (w : World) (ht : SlI w (.slice At t.length ct) t) (hd : SlI w (.slice Ad d.length cd) d) (hj : JobOk m (nm, t, d)) (hs : s < m) (hct : t.length ≤ ct) (hcd : d.length ≤ cd) :
    Calls Tryz.prog 81 #[jobV nm (.slice At t.length ct) (.slice Ad d.length cd), .int .i64 s] w fun e w' => e = .returned (.int .i64 (aftJ (nm, t, d) s)) ∧ Below w.heap.size w w' := by
  unfold jobV
  obtain ⟨A1, c1, r1, k1⟩ := slc_from At ct (s + 1) t (by have := hj.t; dsimp only at this; omega) hct
  obtain ⟨A2, c2, r2, k2⟩ := slc_from Ad cd s d (by have := hj.d; dsimp only at this; omega) hcd
  obtain ⟨b1, b2, l1, l2⟩ := job_sum hj
  dsimp only at b1 b2 l1 l2
  have hcs : ((s + 1 : Nat) : Int) = (s : Int) + 1 := by omega
  rw [hcs] at r1
  have HWS := Lib.hid (wrapsV (show s < 1048576 by have := hj.few; omega))
  obtain ⟨W0, hW⟩ : ∃ W0, W0 = w.alloc (.cells #[.string nm, .slice At t.length ct, .slice Ad d.length cd] 70) := ⟨_, rfl⟩
  have rj : RowK W0 70 w.heap.size [.string nm, .slice At t.length ct, .slice Ad d.length cd] := by subst hW; exact heap_alloc_new w _
  have hB0 : Below w.heap.size w W0 := by subst hW; exact (Below.refl _ _).alloc (Nat.le_refl _) _
  have hky : W0.drew.cell? ⟨w.heap.size, 1, none⟩ = some (.slice At t.length ct) ∧ W0.drew.cell? ⟨w.heap.size, 2, none⟩ = some (.slice Ad d.length cd) := ⟨rj.cell (i := 1) rfl, rj.cell (i := 2) rfl⟩
  have kA := fun W (h : Below w.heap.size w W) => shSum_ok (t.drop (s + 1)) _ W (k1 W (ht.below h)) (fun x hx => b1 x (List.mem_of_mem_drop hx)) (by rw [List.length_drop]; omega)
  have kB := fun W (h : Below w.heap.size w W) => shSum_ok (d.drop s) _ W (k2 W (hd.below h)) (fun x hx => b2 x (List.mem_of_mem_drop hx)) (by rw [List.length_drop]; omega)
  have q1 := sum_small (l := t.drop (s + 1)) (fun x hx => hj.tb x (List.mem_of_mem_drop hx)) (by rw [List.length_drop]; omega)
  have q2 := sum_small (l := d.drop s) (fun x hx => hj.db x (List.mem_of_mem_drop hx)) (by rw [List.length_drop]; omega)
  have hsp : aftJ (nm, t, d) s = sumA (t.drop (s + 1)) + sumA (d.drop s) := rfl
  rw [hsp]
  obtain ⟨s1, hs1⟩ : ∃ s1, s1 = sumA (t.drop (s + 1)) := ⟨_, rfl⟩
  obtain ⟨s2, hs2⟩ : ∃ s2, s2 = sumA (d.drop s) := ⟨_, rfl⟩
  rw [← hs1] at kA q1 ⊢
  rw [← hs2] at kB q2 ⊢
  have kA := kA _ hB0.drew
  have kB := kB _ hB0.drew
  have HW2 := Lib.hid (wrapC2 (n := s1 + s2) (by omega))
  have HX := Lib.hid hB0.drew
  obtain ⟨wa1, wa2⟩ := HW2.out
  obtain ⟨ws1, ws2⟩ := HWS.out
  clear hs1 hs2 q1 q2 hsp ht hd hj b1 b2 l1 l2 k1 k2 hB0 rj hs hct hcd hcs
  go_enter Tryz.func81, Tryz.ntmps81
  go_wp2_with fail
  rw [← hW]
  clear hW
  go_region_held3 (fun V => V.cell? ⟨w.heap.size, 1, none⟩ = some (.slice At t.length ct) ∧ V.cell? ⟨w.heap.size, 2, none⟩ = some (.slice Ad d.length cd)) (first | exact hky | go_keep)
    (first
      | (go_at_call 75; (first | with_reducible refine kA.mono ?_ | with_reducible refine kB.mono ?_); rintro e v1 ⟨rfl, hv1⟩; obtain rfl := hv1))
  rename_i hHeld
  clear hHeld hky
  go_wp2_with fail
  go_ret
  exact ⟨rfl, HX.out⟩
theorem shAll_ok (nm : ByteArray) (At Ad : Option Addr) (ct cd : Nat) (t d : List Int) (m : Nat) (w : World) (ht : SlI w (.slice At t.length ct) t) (hd : SlI w (.slice Ad d.length cd) d) (hj : JobOk m (nm, t, d)) :
    Calls Tryz.prog 74 #[jobV nm (.slice At t.length ct) (.slice Ad d.length cd)] w fun e w' => e = .returned (.int .i64 (allJ (nm, t, d))) ∧ Below w.heap.size w w' := by
  unfold jobV
  obtain ⟨b1, b2, l1, l2⟩ := job_sum hj
  dsimp only at b1 b2 l1 l2
  obtain ⟨W0, hW⟩ : ∃ W0, W0 = w.alloc (.cells #[.string nm, .slice At t.length ct, .slice Ad d.length cd] 70) := ⟨_, rfl⟩
  have rj : RowK W0 70 w.heap.size [.string nm, .slice At t.length ct, .slice Ad d.length cd] := by subst hW; exact heap_alloc_new w _
  have hB0 : Below w.heap.size w W0 := by subst hW; exact (Below.refl _ _).alloc (Nat.le_refl _) _
  have hky : W0.drew.cell? ⟨w.heap.size, 1, none⟩ = some (.slice At t.length ct) ∧ W0.drew.cell? ⟨w.heap.size, 2, none⟩ = some (.slice Ad d.length cd) := ⟨rj.cell (i := 1) rfl, rj.cell (i := 2) rfl⟩
  have kA := fun W (h : Below w.heap.size w W) => shSum_ok t _ W (ht.below h) b1 (by omega)
  have kB := fun W (h : Below w.heap.size w W) => shSum_ok d _ W (hd.below h) b2 (by omega)
  have q1 := sum_small (l := t) (fun x hx => hj.tb x hx) l1
  have q2 := sum_small (l := d) (fun x hx => hj.db x hx) l2
  have hsp : allJ (nm, t, d) = sumA t + sumA d := rfl
  rw [hsp]
  obtain ⟨s1, hs1⟩ : ∃ s1, s1 = sumA t := ⟨_, rfl⟩
  obtain ⟨s2, hs2⟩ : ∃ s2, s2 = sumA d := ⟨_, rfl⟩
  rw [← hs1] at kA q1 ⊢
  rw [← hs2] at kB q2 ⊢
  have kA := kA _ hB0.drew
  have kB := kB _ hB0.drew
  have HW2 := Lib.hid (wrapC2 (n := s1 + s2) (by omega))
  have HX := Lib.hid hB0.drew
  obtain ⟨wa1, wa2⟩ := HW2.out
  clear hs1 hs2 q1 q2 hsp ht hd hj b1 b2 l1 l2 hB0 rj 
  go_enter Tryz.func74, Tryz.ntmps74
  go_wp2_with fail
  rw [← hW]
  clear hW
  go_region_held3 (fun V => V.cell? ⟨w.heap.size, 1, none⟩ = some (.slice At t.length ct) ∧ V.cell? ⟨w.heap.size, 2, none⟩ = some (.slice Ad d.length cd)) (first | exact hky | go_keep)
    (first
      | (go_at_call 75; (first | with_reducible refine kA.mono ?_ | with_reducible refine kB.mono ?_); rintro e v1 ⟨rfl, hv1⟩; obtain rfl := hv1))
  rename_i hHeld
  clear hHeld hky
  go_wp2_with fail
  go_ret
  exact ⟨rfl, HX.out⟩
theorem shBnd1_ok (nm : ByteArray) (At Ad : Option Addr) (ct cd : Nat) (t d : List Int) (m s c : Nat) (w : World) (ht : SlI w (.slice At t.length ct) t) (_hd : SlI w (.slice Ad d.length cd) d) (hj : JobOk m (nm, t, d)) (hs : s < m) (_hct : t.length ≤ ct) (_hcd : d.length ≤ cd) (hc : w.cell? ⟨c, 0, none⟩ = some (.int .i64 s)) (hcl : c < w.heap.size) :
    Calls Tryz.prog 76 #[jobV nm (.slice At t.length ct) (.slice Ad d.length cd), .pointer (some ⟨c, 0, none⟩)] w fun e w' => e = .returned (.int .i64 (at0 t s)) ∧ Below w.heap.size w w' := by
  obtain ⟨b, o, x, hA, -, hb, hx, rx⟩ := ht.cells (k := s) (by have := hj.t; dsimp only at this; omega)
  subst hA
  have hxa := at0_some hx
  rw [hxa]
  have htl : t.length = m := hj.t
  have hs0 : (0 : Int) ≤ s := by omega
  have hs1 : (s : Int) < t.length := by omega
  obtain ⟨W0, hW⟩ : ∃ W0, W0 = w.alloc (.cells #[.string nm, .slice (some ⟨b, o, none⟩) t.length ct, .slice Ad d.length cd] 70) := ⟨_, rfl⟩
  have rj : RowK W0 70 w.heap.size [.string nm, .slice (some ⟨b, o, none⟩) t.length ct, .slice Ad d.length cd] := by subst hW; exact heap_alloc_new w _
  have hB0 : Below w.heap.size w W0 := by subst hW; exact (Below.refl _ _).alloc (Nat.le_refl _) _
  have hbn : b ≠ w.heap.size := Nat.ne_of_lt hb
  have hcn : c ≠ w.heap.size := Nat.ne_of_lt hcl
  unfold jobV
  clear ht hj hs rj hx hxa htl
  go_enter Tryz.func76, Tryz.ntmps76
  go_wp2_with fail
  try rw [← hW]
  go_ret
  exact ⟨rfl, by first | exact hB0 | (rw [← hW]; exact hB0) | (subst hW; exact hB0)⟩
theorem shBnd2_ok (nm : ByteArray) (At Ad : Option Addr) (ct cd : Nat) (t d : List Int) (m s c : Nat) (w : World) (ht : SlI w (.slice At t.length ct) t) (hd : SlI w (.slice Ad d.length cd) d) (hj : JobOk m (nm, t, d)) (hs : s < m) (hct : t.length ≤ ct) (hcd : d.length ≤ cd) (hc : w.cell? ⟨c, 0, none⟩ = some (.int .i64 s)) (hcl : c < w.heap.size) :
    Calls Tryz.prog 78 #[jobV nm (.slice At t.length ct) (.slice Ad d.length cd), .pointer (some ⟨c, 0, none⟩)] w fun e w' => e = .returned (.int .i64 (befJ (nm, t, d) s)) ∧ Below w.heap.size w w' := by
  obtain ⟨W0, hW⟩ : ∃ W0, W0 = w.alloc (.cells #[.string nm, .slice At t.length ct, .slice Ad d.length cd] 70) := ⟨_, rfl⟩
  have rj : RowK W0 70 w.heap.size [.string nm, .slice At t.length ct, .slice Ad d.length cd] := by subst hW; exact heap_alloc_new w _
  have hB0 : Below w.heap.size w W0 := by subst hW; exact (Below.refl _ _).alloc (Nat.le_refl _) _
  have kB := shBefore_ok nm At Ad ct cd t d m s W0 (ht.below hB0) (hd.below hB0) hj hs hct hcd
  unfold jobV at kB ⊢
  obtain ⟨r, hr⟩ : ∃ r, r = befJ (nm, t, d) s := ⟨_, rfl⟩
  rw [← hr] at kB ⊢
  clear hr ht hd hj hs hct hcd rj
  go_enter Tryz.func78, Tryz.ntmps78
  go_wp2_with fail
  rw [← hW]
  clear hW
  refine kB.mono ?_
  rintro e w2 ⟨rfl, hB2⟩
  go_wp2_with fail
  go_ret
  exact ⟨rfl, hB0.trans (hB2.mono hB0.size)⟩
theorem shBnd3_ok (nm : ByteArray) (At Ad : Option Addr) (ct cd : Nat) (t d : List Int) (m s c : Nat) (w : World) (ht : SlI w (.slice At t.length ct) t) (hd : SlI w (.slice Ad d.length cd) d) (hj : JobOk m (nm, t, d)) (hs : s < m) (hct : t.length ≤ ct) (hcd : d.length ≤ cd) (hc : w.cell? ⟨c, 0, none⟩ = some (.int .i64 s)) (hcl : c < w.heap.size) :
    Calls Tryz.prog 80 #[jobV nm (.slice At t.length ct) (.slice Ad d.length cd), .pointer (some ⟨c, 0, none⟩)] w fun e w' => e = .returned (.int .i64 (aftJ (nm, t, d) s)) ∧ Below w.heap.size w w' := by
  obtain ⟨W0, hW⟩ : ∃ W0, W0 = w.alloc (.cells #[.string nm, .slice At t.length ct, .slice Ad d.length cd] 70) := ⟨_, rfl⟩
  have rj : RowK W0 70 w.heap.size [.string nm, .slice At t.length ct, .slice Ad d.length cd] := by subst hW; exact heap_alloc_new w _
  have hB0 : Below w.heap.size w W0 := by subst hW; exact (Below.refl _ _).alloc (Nat.le_refl _) _
  have kB := shAfter_ok nm At Ad ct cd t d m s W0 (ht.below hB0) (hd.below hB0) hj hs hct hcd
  unfold jobV at kB ⊢
  obtain ⟨r, hr⟩ : ∃ r, r = aftJ (nm, t, d) s := ⟨_, rfl⟩
  rw [← hr] at kB ⊢
  clear hr ht hd hj hs hct hcd rj
  go_enter Tryz.func80, Tryz.ntmps80
  go_wp2_with fail
  rw [← hW]
  clear hW
  refine kB.mono ?_
  rintro e w2 ⟨rfl, hB2⟩
  go_wp2_with fail
  go_ret
  exact ⟨rfl, hB0.trans (hB2.mono hB0.size)⟩
end Go.Proofs
end
