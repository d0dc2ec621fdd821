/- TopPlasterSlides within its range, where its example holds. -/
import Derived.Test.YtllameiilljelaaSliA
import Derived.Test.YtllameiilljelaaStG
namespace Go.Proofs
open Go.RowKit
set_option maxHeartbeats 16000000
set_option maxRecDepth 1000000
theorem sli_few {n vol : Int} {l : List Cel} (h : fewB n vol l = true) : (l.length : Int) ≤ n ∧ chkI l = 0 := by
  unfold fewB at h
  simp only [Bool.and_eq_true, decide_eq_true_eq] at h
  exact ⟨h.1, h.2.1⟩
theorem sli_gate {a b : List Cel} {F : Int} {d : Cel} (h : sliGate a b F d = true) : fewB 12 2000 a = true ∧ fewB 12 2000 b = true ∧ refDirI d = 0 ∧ 0 ≤ F ∧ F ≤ 30 := by
  unfold sliGate at h
  simp only [Bool.and_eq_true, decide_eq_true_eq] at h
  exact ⟨h.1, h.2.1, h.2.2.1, h.2.2.2.1, h.2.2.2.2⟩
theorem way_near {d : Cel} {k : Int} (hd : (-8 ≤ d.1 ∧ d.1 ≤ 8) ∧ (-8 ≤ d.2.1 ∧ d.2.1 ≤ 8) ∧ (1 ≤ d.2.2 ∧ d.2.2 ≤ 8)) (hk : 0 ≤ k ∧ k ≤ 30) : Near (wayC d k) 300 := by
  have one : ∀ u : Int, -8 ≤ u → u ≤ 8 → -240 ≤ k * u / d.2.2 ∧ k * u / d.2.2 ≤ 240 := fun u h1 h2 => by
    have m1 : k * u ≤ k * 8 := Int.mul_le_mul_of_nonneg_left h2 hk.1
    have m2 : k * -8 ≤ k * u := Int.mul_le_mul_of_nonneg_left h1 hk.1
    have z0 : 0 < d.2.2 := by omega
    refine ⟨(Int.le_ediv_iff_mul_le z0).2 (by omega), ?_⟩
    have := (Int.ediv_lt_iff_lt_mul z0).2 (show k * u < 241 * d.2.2 by omega)
    omega
  have h1 := one d.1 hd.1.1 hd.1.2
  have h2 := one d.2.1 hd.2.1.1 hd.2.1.2
  unfold Near wayC
  dsimp only
  omega
def mx2 (x y : Int) : Int := if y > x then y else x
theorem max6_run {P : Program} (ts : Array TypeId) (t : TypeId) (a b c d e f : Int) (w : World) : (Builtin.max_ ts t #[.int .i64 a, .int .i64 b, .int .i64 c, .int .i64 d, .int .i64 e, .int .i64 f]).run P w = .ok (.int .i64 (mx2 (mx2 (mx2 (mx2 (mx2 a b) c) d) e) f)) w := by
  unfold mx2
  simp [Builtin.max_, Builtin.max2]
theorem mx2_le (x y m : Int) : mx2 x y ≤ m ↔ x ≤ m ∧ y ≤ m := by
  unfold mx2
  split <;> omega
theorem sli_in (a b : List Cel) (va vb : Value) (F x y z : Int) (w : World) (hr : RingP w) (ha : Sl w va a) (hb : St w vb b) (hg : sliGate a b F (x, y, z) = true) :
    Calls Try.prog 3 #[.agg #[va, vb, .int .i64 F], .agg #[.int .i64 x, .int .i64 y, .int .i64 z]] w fun e w' => e = .returned (.bool true) ∧ Below w.heap.size w w' := by
  obtain ⟨g1, g2, g3, f0, f1⟩ := sli_gate hg
  obtain ⟨la, ca⟩ := sli_few g1
  obtain ⟨lb, cb⟩ := sli_few g2
  have hd := refDir_dir g3
  obtain ⟨A, ka, rfl⟩ := ha.form
  obtain ⟨hb1, B, kb, rfl, hkb, hkbm⟩ := hb
  obtain ⟨W0, hW⟩ : ∃ W0, W0 = (w.alloc (.cells #[.slice A a.length ka, .slice B b.length kb, .int .i64 F] 24)).alloc (.cells #[.int .i64 x, .int .i64 y, .int .i64 z] 26) := ⟨_, rfl⟩
  have hB0 : Below w.heap.size w W0 := by subst hW; exact ((Below.refl _ _).alloc (Nat.le_refl _) _).alloc (by simp) _
  have hsz : W0.heap.size = w.heap.size + 1 + 1 := by subst hW; simp
  have c0 : W0.cell? ⟨w.heap.size, 0, none⟩ = some (.slice A a.length ka) := by subst hW; go_simp
  have c1 : W0.cell? ⟨w.heap.size, 1, none⟩ = some (.slice B b.length kb) := by subst hW; go_simp
  have c2 : W0.cell? ⟨w.heap.size, 2, none⟩ = some (.int .i64 F) := by subst hW; go_simp
  have c3 : W0.cell? ⟨w.heap.size + 1, 0, none⟩ = some (.int .i64 x) := by subst hW; go_simp
  have c4 : W0.cell? ⟨w.heap.size + 1, 1, none⟩ = some (.int .i64 y) := by subst hW; go_simp
  have c5 : W0.cell? ⟨w.heap.size + 1, 2, none⟩ = some (.int .i64 z) := by subst hW; go_simp
  have kk : ∀ V, Below W0.heap.size W0 V → (V.cell? ⟨w.heap.size, 0, none⟩ = some (.slice A a.length ka) ∧ V.cell? ⟨w.heap.size, 1, none⟩ = some (.slice B b.length kb) ∧ V.cell? ⟨w.heap.size, 2, none⟩ = some (.int .i64 F)) ∧ V.cell? ⟨w.heap.size + 1, 0, none⟩ = some (.int .i64 x) ∧ V.cell? ⟨w.heap.size + 1, 1, none⟩ = some (.int .i64 y) ∧ V.cell? ⟨w.heap.size + 1, 2, none⟩ = some (.int .i64 z) := fun V h =>
    ⟨⟨(h.cell (p := ⟨w.heap.size, 0, none⟩) (by show w.heap.size < _; omega)).trans c0, (h.cell (p := ⟨w.heap.size, 1, none⟩) (by show w.heap.size < _; omega)).trans c1, (h.cell (p := ⟨w.heap.size, 2, none⟩) (by show w.heap.size < _; omega)).trans c2⟩,
     (h.cell (p := ⟨w.heap.size + 1, 0, none⟩) (by show w.heap.size + 1 < _; omega)).trans c3, (h.cell (p := ⟨w.heap.size + 1, 1, none⟩) (by show w.heap.size + 1 < _; omega)).trans c4, (h.cell (p := ⟨w.heap.size + 1, 2, none⟩) (by show w.heap.size + 1 < _; omega)).trans c5⟩
  have qa := few_ok a (.slice A a.length ka) 12 2000 W0 (ha.below hB0) (by unfold maxLen; omega) (by omega)
  have kB := fun V (h : Below W0.heap.size W0 V) => few_ok b (.slice B b.length kb) 12 2000 V (hb1.below (hB0.trans (h.mono hB0.size))) (by unfold maxLen; omega) (by omega)
  have kD := fun V => refDirC_ok x y z V
  have kR := fun V (h : Below W0.heap.size W0 V) => hr V (hB0.trans (h.mono hB0.size))
  have kS := fun V (h : Below W0.heap.size W0 V) => stuck_ok a b (.slice A a.length ka) (.slice B b.length kb) x y z V (ha.below (hB0.trans (h.mono hB0.size))) (hb1.below (hB0.trans (h.mono hB0.size))) ca cb hd
  have kW := fun V k (hk : 0 ≤ k ∧ k ≤ 2000) => Way_ok x y z k hd hk V
  have kF := fun V p q r (h : Below W0.heap.size W0 V) (hn : ∀ c ∈ a, Near c 500) (hs : Near (p, q, r) 300) => shiftP_ok a (.slice A a.length ka) p q r V (ha.below (hB0.trans (h.mono hB0.size))) ca hn hs
  have kC := fun V va s (h : Below W0.heap.size W0 V) (hv : Sl V va (a.map (shiftC s))) (hn : ∀ c ∈ a, Near c 500) (hs : Near s 300) => cutP_ok a b s va B kb V hv (hb1.below (hB0.trans (h.mono hB0.size))) hkb hkbm ca cb hn hs
  have haW := fun V (h : Below W0.heap.size W0 V) => ha.below (hB0.trans (h.mono hB0.size))
  have hnA : ∀ c ∈ a, Near c 1000 := (chkI_zero.1 ca).2.1
  have hdz := dir_zero hd
  have F0 : ¬ F < 0 := by omega
  have F30 : ¬ 30 < F := by omega
  rw [g1] at qa
  rw [g2] at kB
  rw [g3] at kD
  clear c0 c1 c2 c3 c4 c5 ha hb1 hr hg g1 g2 g3 ca cb hkb hkbm
  go_enter Try.func3, Try.ntmps3
  go_wp2_with fail
  rw [← hW]
  clear hW
  refine qa.mono ?_
  rintro e w3 ⟨rfl, hX⟩
  clear qa
  obtain ⟨⟨d0, d1, d2⟩, d3, d4, d5⟩ := kk _ hX
  go_wp2_with (first
    | (go_at_call 4; refine (kB _ hX).mono ?_; rintro e w4 ⟨rfl, hY⟩; have hX := hX.trans (hY.mono hX.size); obtain ⟨⟨d0, d1, d2⟩, d3, d4, d5⟩ := kk _ hX)
    | (go_at_call 5; refine (kD _).mono ?_; rintro e w5 ⟨rfl, hY⟩; have hX := hX.trans (hY.mono hX.size); obtain ⟨⟨d0, d1, d2⟩, d3, d4, d5⟩ := kk _ hX))
  clear kB kD d0 d1 d2 d3 d4 d5
  go_loopw [46] (fun i wr => ∃ k : Nat, k ≤ a.length ∧ i = .int .i64 k ∧ (∀ j c, j < k → a[j]? = some c → Near c 500) ∧ Below W0.heap.size W0 wr) (fun i _ => a.length - (intOf i).toNat)
  case atStart => exact ⟨0, Nat.zero_le _, rfl, fun j c hj => by omega, hX⟩
  case round =>
    clear hX
    obtain ⟨k, hk, rfl, hall, hX⟩ := hrel
    rename World => w6
    rcases Nat.lt_or_eq_of_le hk with hkn | hkn
    · obtain ⟨bq, o, p, q, r, rfl, -, hbq, hc, r0, r1, r2⟩ := (haW _ hX).cells hkn
      have hk0 : (0 : Int) ≤ k := by omega
      have hk1 : (k : Int) < a.length := by omega
      have wk := wrapS (n := (k : Int) + 1) (by omega)
      have hnc := hnA _ (List.mem_of_getElem? hc)
      unfold Near at hnc
      dsimp only at hnc
      have n1 : wrap64 (-p) = -p := by unfold wrap64; omega
      have n2 : wrap64 (-q) = -q := by unfold wrap64; omega
      have n3 : wrap64 (-r) = -r := by unfold wrap64; omega
      have hm := fun ts t W => max6_run (P := Try.prog) ts t p (-p) q (-q) r (-r) W
      have hmx : mx2 (mx2 (mx2 (mx2 (mx2 p (-p)) q) (-q)) r) (-r) ≤ 500 ↔ ((((p ≤ 500 ∧ -p ≤ 500) ∧ q ≤ 500) ∧ -q ≤ 500) ∧ r ≤ 500) ∧ -r ≤ 500 := by rw [mx2_le, mx2_le, mx2_le, mx2_le, mx2_le]
      generalize mx2 (mx2 (mx2 (mx2 (mx2 p (-p)) q) (-q)) r) (-r) = M at hm hmx
      by_cases hM : 500 < M
      · clear hmx
        have hZ := hX.alloc hX.size (.cells #[.int .i64 p, .int .i64 q, .int .i64 r] 26)
        go_wp2_with (go_at_call 6; refine (kR _ hZ).mono ?_; rintro e w7 ⟨rfl, hY⟩)
        go_ret
        exact ⟨rfl, (hB0.trans (hZ.mono hB0.size)).trans (hY.mono (hB0.trans (hZ.mono hB0.size)).size)⟩
      have hN : Near (p, q, r) 500 := by
        unfold Near
        dsimp only
        omega
      have hZ := hX.alloc hX.size (.cells #[.int .i64 p, .int .i64 q, .int .i64 r] 26)
      go_wp2
      exact ⟨⟨k + 1, hkn, rfl, fun j c hj hjc => (by
        rcases Nat.lt_or_eq_of_le (Nat.le_of_lt_succ hj) with hj | rfl
        · exact hall j c hj hjc
        · obtain rfl := Option.some.inj (hc.symm.trans hjc)
          exact hN), hZ⟩, by simp [intOf]; omega⟩
    · subst hkn
      have hn : ∀ c ∈ a, Near c 500 := fun c hc => by
        obtain ⟨j, hj⟩ := List.mem_iff_getElem?.1 hc
        exact hall j c (List.getElem?_eq_some_iff.1 hj).1 hj
      clear hall hk hnA
      obtain ⟨⟨d0, d1, d2⟩, d3, d4, d5⟩ := kk _ hX
      go_wp2_with fail
      refine (kS _ hX).mono ?_
      rintro e w7 ⟨n, p, q, r, h, rfl, hst, hY⟩
      have hX7 := hX.trans (hY.mono hX.size)
      have hXn := hX7.alloc hX7.size (.cells #[.int .i64 p, .int .i64 q, .int .i64 r] 26)
      have hrow := heap_alloc_new w7 (.cells #[.int .i64 p, .int .i64 q, .int .i64 r] 26)
      have hnn := hX7.size
      obtain ⟨⟨d0, d1, d2⟩, d3, d4, d5⟩ := kk _ hXn
      clear kS hX hY hX7
      obtain ⟨Wn, hWn⟩ : ∃ Wn, Wn = w7.alloc (.cells #[.int .i64 p, .int .i64 q, .int .i64 r] 26) := ⟨_, rfl⟩
      have hszn : Wn.heap.size = w7.heap.size + 1 := by subst hWn; simp
      rw [← hWn] at hXn hrow
      have kn : ∀ V, Below Wn.heap.size Wn V → V.heap[w7.heap.size]? = some (.cells #[.int .i64 p, .int .i64 q, .int .i64 r] 26 (0, 0)) := fun V h => (h.block _ (by omega)).trans hrow
      have wF : IntKind.i64.wrap (F + 1) = F + 1 := wrapS (by omega)
      have hw0 : Below Wn.heap.size Wn Wn := Below.refl _ _
      cases h with
      | false =>
        rw [if_neg (by decide)]
        go_wp2_with fail
        rw [← hWn]
        clear hWn d0 d1 d2 d3 d4 d5
        generalize w7.heap.size = nn at kn hszn hnn hrow ⊢
        go_loopw [88] (fun i wr => ∃ j : Nat, (j : Int) ≤ F + 1 ∧ i = .int .i64 j ∧ Below Wn.heap.size Wn wr) (fun i _ => (F + 1).toNat - (intOf i).toNat)
        case atStart => exact ⟨0, by omega, rfl, hw0⟩
        case round =>
          clear hw0
          obtain ⟨j, hj, rfl, hV⟩ := hrel
          rename World => w8
          have hX := hXn.trans (hV.mono hXn.size)
          obtain ⟨⟨d0, d1, d2⟩, d3, d4, d5⟩ := kk _ hX
          have hall := fun j hj => (hst.resolve_left (by rintro ⟨h, _⟩; cases h)).2.2.2 j hj
          clear hrow hszn hnn
          by_cases hjF : (j : Int) < F + 1
          · have wj := wrapS (n := (j : Int) + 1) (by omega)
            have hnear := way_near (d := (x, y, z)) (k := j) hdz ⟨by omega, by omega⟩
            have hnil := hall j (by omega)
            unfold wayC at hnear hnil
            dsimp only at hnear hnil
            clear hall hst
            go_wp2_with fail
            refine (kW _ j ⟨by omega, by omega⟩).mono ?_
            rintro e w9 ⟨rfl, hY⟩
            have hX := hX.trans (hY.mono hX.size)
            have hV := hV.trans (hY.mono hV.size)
            have hX := hX.alloc hX.size (.cells #[.int .i64 (j * x / z), .int .i64 (j * y / z), .int .i64 j] 26)
            have hV := hV.alloc hV.size (.cells #[.int .i64 (j * x / z), .int .i64 (j * y / z), .int .i64 j] 26)
            obtain ⟨⟨d0, d1, d2⟩, d3, d4, d5⟩ := kk _ hX
            generalize (j : Int) * x / z = X at hX hV d0 d1 d2 d3 d4 d5 hnear hnil ⊢
            generalize (j : Int) * y / z = Y at hX hV d0 d1 d2 d3 d4 d5 hnear hnil ⊢
            go_wp2_with fail
            refine (kF _ _ _ _ hX hn hnear).mono ?_
            rintro e w10 ⟨A1, c1, rfl, hS, hY⟩
            have hX := hX.trans (hY.mono hX.size)
            have hV := hV.trans (hY.mono hV.size)
            have q := kC _ _ _ hX hS hn hnear
            generalize Value.slice A1 _ c1 = v1 at hS q ⊢
            obtain ⟨⟨d0, d1, d2⟩, d3, d4, d5⟩ := kk _ hX
            clear hS
            go_wp2_with fail
            refine q.mono ?_
            rintro e w11 ⟨A2, c2, rfl, hS, hY⟩
            have hX := hX.trans (hY.mono hX.size)
            have hV := hV.trans (hY.mono hV.size)
            rw [hnil] at hS ⊢
            obtain ⟨⟨d0, d1, d2⟩, d3, d4, d5⟩ := kk _ hX
            clear q hS hnil
            go_wp2
            exact ⟨⟨j + 1, by omega, rfl, hV⟩, by simp [intOf]; omega⟩
          · go_wp2_with (go_at_call 6; refine (kR _ hX).mono ?_; rintro e w9 ⟨rfl, hY⟩)
            go_ret
            exact ⟨rfl, (hB0.trans (hX.mono hB0.size)).trans (hY.mono (hB0.trans (hX.mono hB0.size)).size)⟩
      | true =>
        rw [if_pos rfl]
        have hsx := hst.resolve_right (by rintro ⟨h, _⟩; cases h)
        clear hst
        obtain ⟨-, hn0, hdd, hno⟩ := hsx
        go_wp2_with fail
        rw [← hWn]
        clear hWn d0 d1 d2 d3 d4 d5
        generalize w7.heap.size = nn at kn hszn hnn hrow ⊢
        go_loopw [88] (fun i wr => ∃ j : Nat, (j : Int) ≤ F + 1 ∧ (j : Int) ≤ n ∧ i = .int .i64 j ∧ Below Wn.heap.size Wn wr) (fun i _ => (F + 1).toNat - (intOf i).toNat)
        case atStart => exact ⟨0, by omega, hn0, rfl, hw0⟩
        case round =>
          clear hw0
          obtain ⟨j, hj, hjn, rfl, hV⟩ := hrel
          rename World => w8
          have hX := hXn.trans (hV.mono hXn.size)
          obtain ⟨⟨d0, d1, d2⟩, d3, d4, d5⟩ := kk _ hX
          clear hrow hszn hnn
          by_cases hjF : (j : Int) < F + 1
          · by_cases hjn' : (j : Int) < n
            · have hh := hno j (by omega) hjn'
              have hne : (n == (j : Int)) = false := by rw [beq_eq_false_iff_ne]; omega
              have wj := wrapS (n := (j : Int) + 1) (by omega)
              have hnear := way_near (d := (x, y, z)) (k := j) hdz ⟨by omega, by omega⟩
              unfold wayC at hnear hh
              dsimp only at hnear hh
              clear hno hdd
              go_wp2_with fail
              refine (kW _ j ⟨by omega, by omega⟩).mono ?_
              rintro e w9 ⟨rfl, hY⟩
              have hX := hX.trans (hY.mono hX.size)
              have hV := hV.trans (hY.mono hV.size)
              have hX := hX.alloc hX.size (.cells #[.int .i64 (j * x / z), .int .i64 (j * y / z), .int .i64 j] 26)
              have hV := hV.alloc hV.size (.cells #[.int .i64 (j * x / z), .int .i64 (j * y / z), .int .i64 j] 26)
              obtain ⟨⟨d0, d1, d2⟩, d3, d4, d5⟩ := kk _ hX
              generalize (j : Int) * x / z = X at hX hV d0 d1 d2 d3 d4 d5 hnear hh ⊢
              generalize (j : Int) * y / z = Y at hX hV d0 d1 d2 d3 d4 d5 hnear hh ⊢
              go_wp2_with fail
              refine (kF _ _ _ _ hX hn hnear).mono ?_
              rintro e w10 ⟨A1, c1, rfl, hS, hY⟩
              have hX := hX.trans (hY.mono hX.size)
              have hV := hV.trans (hY.mono hV.size)
              have qC := kC _ _ _ hX hS hn hnear
              generalize Value.slice A1 _ c1 = v1 at hS qC ⊢
              obtain ⟨⟨d0, d1, d2⟩, d3, d4, d5⟩ := kk _ hX
              clear hS
              go_wp2_with fail
              refine qC.mono ?_
              rintro e w11 ⟨A2, c2, rfl, hS, hY⟩
              have hX := hX.trans (hY.mono hX.size)
              have hV := hV.trans (hY.mono hV.size)
              rw [hh] at hS ⊢
              obtain ⟨⟨d0, d1, d2⟩, d3, d4, d5⟩ := kk _ hX
              clear qC hS hh
              go_wp2
              exact ⟨⟨j + 1, by omega, by omega, rfl, hV⟩, by simp [intOf]; omega⟩
            · obtain rfl : (j : Int) = n := by omega
              have hh := hdd
              have wj := wrapS (n := (j : Int) + 1) (by omega)
              have hnear := way_near (d := (x, y, z)) (k := j) hdz ⟨by omega, by omega⟩
              unfold wayC at hnear hh
              dsimp only at hnear hh
              clear hno hdd
              go_wp2_with fail
              refine (kW _ j ⟨by omega, by omega⟩).mono ?_
              rintro e w9 ⟨rfl, hY⟩
              have hX := hX.trans (hY.mono hX.size)
              have hV := hV.trans (hY.mono hV.size)
              have hX := hX.alloc hX.size (.cells #[.int .i64 (j * x / z), .int .i64 (j * y / z), .int .i64 j] 26)
              have hV := hV.alloc hV.size (.cells #[.int .i64 (j * x / z), .int .i64 (j * y / z), .int .i64 j] 26)
              obtain ⟨⟨d0, d1, d2⟩, d3, d4, d5⟩ := kk _ hX
              generalize (j : Int) * x / z = X at hX hV d0 d1 d2 d3 d4 d5 hnear hh ⊢
              generalize (j : Int) * y / z = Y at hX hV d0 d1 d2 d3 d4 d5 hnear hh ⊢
              go_wp2_with fail
              refine (kF _ _ _ _ hX hn hnear).mono ?_
              rintro e w10 ⟨A1, c1, rfl, hS, hY⟩
              have hX := hX.trans (hY.mono hX.size)
              have hV := hV.trans (hY.mono hV.size)
              have qC := kC _ _ _ hX hS hn hnear
              generalize Value.slice A1 _ c1 = v1 at hS qC ⊢
              obtain ⟨⟨d0, d1, d2⟩, d3, d4, d5⟩ := kk _ hX
              clear hS
              go_wp2_with fail
              refine qC.mono ?_
              rintro e w11 ⟨A2, c2, rfl, hS, hY⟩
              have hX := hX.trans (hY.mono hX.size)
              have hV := hV.trans (hY.mono hV.size)
              obtain ⟨⟨d0, d1, d2⟩, d3, d4, d5⟩ := kk _ hX
              generalize hitL a b (X, Y, (j : Int)) = out at hh hS ⊢
              obtain ⟨tl, rfl⟩ : ∃ tl, out = (p, q, r) :: tl := by
                cases out with
                | nil => cases hh
                | cons c tl => exact ⟨tl, by rw [List.head?_cons] at hh; rw [Option.some.inj hh]⟩
              obtain ⟨bq, o, p', q', r', rfl, -, hbq, hc, r0, r1, r2⟩ := hS.cells (k := 0) (by simp)
              obtain ⟨rfl, rfl, rfl⟩ : p = p' ∧ q = q' ∧ r = r' := by simpa using hc
              obtain ⟨⟨z0, z1, z2⟩, -⟩ := three_cells (kn _ hV)
              clear qC hS hh hc
              rw [List.length_cons]
              have t1 : ((0 : Int) < ((tl.length + 1 : Nat) : Int)) := by omega
              simp only [Nat.zero_mul, Nat.add_zero] at r0 r1 r2
              have hXd := hX.drew
              rename World => w11
              have hky : (w11.drew.cell? ⟨bq, o, none⟩ = some (.int .i64 p) ∧ w11.drew.cell? ⟨bq, o + 1, none⟩ = some (.int .i64 q) ∧ w11.drew.cell? ⟨bq, o + 2, none⟩ = some (.int .i64 r)) ∧ w11.drew.cell? ⟨nn, 0, none⟩ = some (.int .i64 p) ∧ w11.drew.cell? ⟨nn, 1, none⟩ = some (.int .i64 q) ∧ w11.drew.cell? ⟨nn, 2, none⟩ = some (.int .i64 r) := ⟨⟨r0, r1, r2⟩, z0, z1, z2⟩
              have hbd : bq < w11.drew.heap.size := hbq
              have hnd : nn < w11.drew.heap.size := (Array.getElem?_eq_some_iff.1 (kn _ hV)).1
              have kz : ∀ V, Below w11.drew.heap.size w11.drew V → (V.cell? ⟨bq, o, none⟩ = some (.int .i64 p) ∧ V.cell? ⟨bq, o + 1, none⟩ = some (.int .i64 q) ∧ V.cell? ⟨bq, o + 2, none⟩ = some (.int .i64 r)) ∧ V.cell? ⟨nn, 0, none⟩ = some (.int .i64 p) ∧ V.cell? ⟨nn, 1, none⟩ = some (.int .i64 q) ∧ V.cell? ⟨nn, 2, none⟩ = some (.int .i64 r) := fun V h =>
                ⟨⟨(h.cell (p := ⟨bq, o, none⟩) hbd).trans hky.1.1, (h.cell (p := ⟨bq, o + 1, none⟩) hbd).trans hky.1.2.1, (h.cell (p := ⟨bq, o + 2, none⟩) hbd).trans hky.1.2.2⟩,
                 (h.cell (p := ⟨nn, 0, none⟩) hnd).trans hky.2.1, (h.cell (p := ⟨nn, 1, none⟩) hnd).trans hky.2.2.1, (h.cell (p := ⟨nn, 2, none⟩) hnd).trans hky.2.2.2⟩
              go_wp2_with fail
              go_region_held3 (fun w' => (w'.cell? ⟨bq, o, none⟩ = some (.int .i64 p) ∧ w'.cell? ⟨bq, o + 1, none⟩ = some (.int .i64 q) ∧ w'.cell? ⟨bq, o + 2, none⟩ = some (.int .i64 r)) ∧ w'.cell? ⟨nn, 0, none⟩ = some (.int .i64 p) ∧ w'.cell? ⟨nn, 1, none⟩ = some (.int .i64 q) ∧ w'.cell? ⟨nn, 2, none⟩ = some (.int .i64 r)) (first | exact hky | go_keep)
                (first
                  | (go_at_call 6; refine (kR _ hXd).mono ?_; rintro e w12 ⟨rfl, hY⟩; have hky := kz _ hY))
              rename_i hHeld
              clear hHeld
              go_wp2
              go_ret
              exact ⟨rfl, (hB0.trans (hXd.mono hB0.size)).trans (hY.mono (hB0.trans (hXd.mono hB0.size)).size)⟩
          · have hFn : F < n := by omega
            clear hno hdd
            go_wp2_with (go_at_call 6; refine (kR _ hX).mono ?_; rintro e w9 ⟨rfl, hY⟩)
            go_ret
            exact ⟨rfl, (hB0.trans (hX.mono hB0.size)).trans (hY.mono (hB0.trans (hX.mono hB0.size)).size)⟩
end Go.Proofs
