/- TopWaxBalls within its range. -/
import Derived.Test.YtgmcdnabgojaeaaBalW
namespace Go.Proofs
open Go.RowKit
set_option maxHeartbeats 16000000
set_option maxRecDepth 1000000
theorem bal_few1 {l : List Cel} (h : (fewB 8 512 l && l.all nearB) = true) : l.length ≤ 8 ∧ chkI l = 0 ∧ ∀ c ∈ l, Near c 100 := by
  rw [Bool.and_eq_true] at h
  obtain ⟨h1, h2⟩ := h
  unfold fewB at h1
  simp only [Bool.and_eq_true, decide_eq_true_eq] at h1
  refine ⟨by have := h1.1; omega, h1.2.1, fun c hc => ?_⟩
  have := List.all_eq_true.1 h2 c hc
  unfold nearB withinI at this
  have := of_decide_eq_true this
  unfold Near
  split at this <;> split at this <;> split at this <;> omega
theorem bal_gate {a b : List Cel} {n : Int} (h : balGate a b n = true) : waxB 8 [a, b] = true ∧ a.length ≠ 0 ∧ b.length ≠ 0 ∧ (0 ≤ n ∧ n ≤ 2) ∧ (a.length ≤ 8 ∧ chkI a = 0 ∧ ∀ c ∈ a, Near c 100) ∧ b.length ≤ 8 ∧ chkI b = 0 ∧ ∀ c ∈ b, Near c 100 := by
  unfold balGate at h
  simp only [Bool.and_eq_true, Bool.not_eq_true', decide_eq_false_iff_not, decide_eq_true_eq] at h
  obtain ⟨hw, h1, h2, h3⟩ := h
  have hx := hw
  unfold waxB at hx
  simp only [List.all_cons, List.all_nil, Bool.and_true] at hx
  rw [Bool.and_eq_true] at hx
  exact ⟨hw, h1, h2, h3, bal_few1 hx.1, bal_few1 hx.2⟩
/-- One cell of a set, as a slice. -/
theorem sl_one {w : World} {A : Option Addr} {n cap cap' : Nat} {l : List Cel} (h : Sl w (.slice A n cap) l) {k : Nat} {c : Cel} (hc : l[k]? = some c) {b o : Nat} (hA : A = some ⟨b, o, none⟩) : Sl w (.slice (some ⟨b, o + k * 3, none⟩) 1 cap') [c] := by
  obtain ⟨b', o', x, y, z, hA', -, hb, hc', r0, r1, r2⟩ := h.cells (List.getElem?_eq_some_iff.1 hc).1
  rw [hA] at hA'
  obtain ⟨rfl, rfl⟩ : b = b' ∧ o = o' := by simpa using hA'
  rw [hc] at hc'
  obtain rfl := Option.some.inj hc'
  refine .inr ⟨⟨b, o + k * 3, none⟩, cap', rfl, fun _ => ⟨rfl, hb, fun i d hi => ?_⟩⟩
  obtain rfl : i = 0 := by have := (List.getElem?_eq_some_iff.1 hi).1; simp at this; exact this
  obtain rfl : d = (x, y, z) := by simpa using hi.symm
  exact ⟨r0, r1, r2⟩
theorem bal_in (a b : List Cel) (va vb : Value) (n : Nat) (w : World) (ha : St w va a) (hb : St w vb b) (hg : balGate a b n = true) :
    Calls Try.prog 3 #[va, vb, .int .i64 n] w fun e w' => e = .returned (.bool true) ∧ Below w.heap.size w w' := by
  obtain ⟨hwax, la0, lb0, hn02, ⟨la8, ca, an⟩, lb8, cb, bn⟩ := bal_gate hg
  have hn : n ≤ 2 := by omega
  have hw := bal_few ha.1 hb.1 (by unfold maxLen; omega) (by unfold maxLen; omega)
  rw [hwax] at hw
  obtain ⟨ha1, A, ka, rfl, hka, hkam⟩ := ha
  obtain ⟨hb1, B, kb, rfl, hkb, hkbm⟩ := hb
  have kG := fun W (h : Below w.heap.size w W) => growS (n := n) (ha1.below h) ca (by omega) (fun i hi S h1 h2 => grow_small4 (by omega) (by omega) h1 h2) (near_in (fun c hc => (an c hc).mono (by omega)) (by omega))
  have kSh := fun W (h : Below w.heap.size w W) => shrink_fine (n := n) (ha1.below h) ca (by omega)
  have kD := fun W (h : Below w.heap.size w W) => apartG_ok a b _ _ kb W (ha1.below h) (hb1.below h) ca cb (by omega) (by omega) hkb hkbm ⟨_, rfl⟩
  have hSta := fun W (h : Below w.heap.size w W) => (St.below ⟨ha1, A, ka, rfl, hka, hkam⟩ h : St W (.slice A a.length ka) a)
  have hStb := fun W (h : Below w.heap.size w W) => (St.below ⟨hb1, B, kb, rfl, hkb, hkbm⟩ h : St W (.slice B b.length kb) b)
  have e0 : (((a.length : Nat) : Int) == 0) = false := by rw [beq_eq_false_iff_ne]; omega
  have e1 : (((b.length : Nat) : Int) == 0) = false := by rw [beq_eq_false_iff_ne]; omega
  have n0 : ¬ ((n : Int) < 0) := by omega
  have n2 : ¬ ((2 : Int) < n) := by omega
  have Hca := Lib.hid ca
  have Hcb := Lib.hid cb
  clear hg hwax hn02 ca cb
  go_enter Try.func3, Try.ntmps3
  go_wp2_with fail
  refine hw.mono ?_
  rintro e w3 ⟨rfl, hB3⟩
  have hX : Below w.heap.size w w3 := ((Below.refl _ _).alloc (Nat.le_refl _) _).trans (hB3.mono (by omega))
  clear hw hB3
  have q := kG _ hX
  go_wp2_with fail
  refine q.mono ?_
  rintro e w4 ⟨g, ug, mg, cg, A1, k1, rfl, hSg, hB⟩
  replace hX := hX.trans (hB.mono hX.size)
  clear hB q
  have Hcg := Lib.hid cg
  have q := chkS hSg.1 cg
  go_wp2_with fail
  refine q.mono ?_
  rintro e w5 ⟨rfl, hB⟩
  replace hX := hX.trans (hB.mono hX.size)
  replace hSg := hSg.below hB
  clear cg
  clear hB q
  have hw0 : Below w5.heap.size w5 w5 := Below.refl _ _
  go_wp2_with fail
  go_loopw [65, 9] (fun i s wr => ∃ (k : Nat) (AL : List Cel), k ≤ a.length ∧ i = .int .i64 k ∧ Own wr w5.heap.size s AL ∧ (∀ c, c ∈ AL ↔ c ∈ growN n (a.take k)) ∧ AL.length ≤ 25 * k ∧ Below w5.heap.size w5 wr) (fun i _ _ => a.length - (intOf i).toNat)
  case atStart => exact ⟨0, [], Nat.zero_le _, rfl, Own.nil _ _, fun c => by rw [List.take_zero, grow_iff]; simp, by simp, hw0⟩
  case round =>
    clear hw0
    obtain ⟨k, AL, hk, rfl, hown, hmem, hlen, hBr⟩ := hrel
    rename World => w6
    have hX6 := hX.trans (hBr.mono hX.size)
    rcases Nat.lt_or_eq_of_le hk with hkn | hkn
    · obtain ⟨bq, o, x, y, z, rfl, -, hbq, hc, r0, r1, r2⟩ := (ha1.below hX6).cells hkn
      have hk0 : (0 : Int) ≤ k := by omega
      have hk1 : (k : Int) < a.length := by omega
      have wk := wrapS (n := (k : Int) + 1) (by omega)
      have hnc : Near (x, y, z) 100 := an _ (List.mem_of_getElem? hc)
      have c1 : chkI [(x, y, z)] = 0 := chkI_zero.2 ⟨by simp, fun c h => by rw [List.mem_singleton] at h; subst h; exact hnc.mono (by omega), List.pairwise_singleton _ _⟩
      have q := fun cap' => growS (n := n) (sl_one (cap' := cap') (ha1.below hX6) hc rfl) c1 (by omega) (fun i hi S h1 h2 => grow_small4 (by simp) (by omega) h1 h2) (near_in (fun c h => by rw [List.mem_singleton] at h; subst h; exact hnc.mono (by omega)) (by omega))
      obtain ⟨m1, m2, m3, m4, m5, m6, m7, m8, m9, m10⟩ := ball_wraps hn
      have hka0 : (k : Int) + 1 ≤ ka := by omega
      have htk : a.take (k + 1) = a.take k ++ [(x, y, z)] := by rw [List.take_add_one, hc]; rfl
      clear r0 r1 r2 kG kSh kD c1 hc
      go_wp2_with fail
      refine (q _).mono ?_
      rintro e w7 ⟨X, uX, mX, cX, A7, k7, rfl, hSX, hB7⟩
      have hlX := ball_count hn uX mX
      have hne : ((X.length : Int) != ((ballN n).length : Int)) = false := by rw [hlX]; simp
      have hb25 := (ball_num hn).2
      have hlx : X.length ≤ 25 := by omega
      have hown7 := hown.keep hB7
      have hB57 := hBr.trans (hB7.mono hBr.size)
      have hmem' : ∀ c, c ∈ AL ++ X ↔ c ∈ growN n (a.take (k + 1)) := fun c => by rw [List.mem_append, hmem, mX, htk, grow_snoc]
      have hlen' : (AL ++ X).length ≤ 25 * (k + 1) := by rw [List.length_append]; omega
      have hSX1 := hSX.1
      clear q hlX hb25 hown hmem htk hSX hBr hB7 hX6
      go_wp2_with (at_builtin; refine wpList_append_sl rfl _ _ rfl w5.heap.size ?cE _ AL rfl hown7 _ X rfl hSX1 ?cC ?_)
      case cC => omega
      case cE => exact hB57.size
      intro v8 w8 hown8 hB8
      go_wp2
      exact ⟨⟨k + 1, AL ++ X, hkn, rfl, hown8, hmem', hlen', hB57.trans hB8⟩, by simp [intOf]; omega⟩
    · subst hkn
      rw [List.take_length] at hmem
      replace hX := hX6
      replace hSg := hSg.below hBr
      clear hX6 hBr hk kG
      have q := refSorted_ok AL _ w6 hown.sl (by omega)
      go_wp2_with fail
      refine q.mono ?_
      rintro e w7 ⟨v7, out, rfl, ho, huo, hmo, hB⟩
      replace hX := hX.trans (hB.mono hX.size)
      replace hSg := hSg.below hB
      have eo : g = out := up_ext ug huo fun c => by rw [hmo, hmem, mg]
      subst eo
      have hSo := ho.sl
      obtain ⟨A7, k7, rfl⟩ := hSo.form
      clear hown hmem hlen huo hmo ho
      clear hB q
      have q := sameX rfl hSo hSg.1 Hcg.out
      go_wp2_with fail
      refine q.mono ?_
      rintro e w8 ⟨rfl, hB⟩
      replace hX := hX.trans (hB.mono hX.size)
      replace hSg := hSg.below hB
      clear hSo
      clear hB q
      obtain ⟨h, hh⟩ : ∃ h, a[0]? = some h := ⟨_, List.getElem?_eq_getElem (by omega)⟩
      obtain ⟨n1, n2, hwd, hin⟩ := bal_box hh an
      have kBound := fun W (hW : Below w.heap.size w W) => refBound_ok a h _ W (ha1.below hW) hh (by omega)
      generalize bndK h a a.length = Bx at n1 n2 hwd hin kBound
      obtain ⟨w1, w2, w3'⟩ := wide_near (k := 2) n1 n2 hwd (by omega)
      have kSize := size_ok (wideB 2 Bx) (w1.mono (by omega)) (w2.mono (by omega))
      have hWd := w3'
      have hN1 := w1
      have hN2 := w2
      obtain ⟨⟨lx, ly, lz⟩, ⟨ux, uy, uz⟩⟩ := Bx
      have kM1 : ∀ W, Calls Try.prog 11 #[.agg #[.int .i64 lx, .int .i64 ly, .int .i64 lz], .agg #[.int .i64 (-2), .int .i64 (-2), .int .i64 (-2)]] W fun e w' => e = .returned (.agg #[.int .i64 (lx - 2), .int .i64 (ly - 2), .int .i64 (lz - 2)]) ∧ Below W.heap.size W w' := fun W => by
        unfold Near at n1
        exact refMoved_ok lx ly lz (-2) (-2) (-2) W (by dsimp only at n1; omega) (by dsimp only at n1; omega) (by dsimp only at n1; omega)
      have kM2 : ∀ W, Calls Try.prog 11 #[.agg #[.int .i64 ux, .int .i64 uy, .int .i64 uz], .agg #[.int .i64 2, .int .i64 2, .int .i64 2]] W fun e w' => e = .returned (.agg #[.int .i64 (ux + 2), .int .i64 (uy + 2), .int .i64 (uz + 2)]) ∧ Below W.heap.size W w' := fun W => by
        unfold Near at n2
        exact refMoved_ok ux uy uz 2 2 2 W (by dsimp only at n2; omega) (by dsimp only at n2; omega) (by dsimp only at n2; omega)
      unfold boxV at kBound
      dsimp only at kBound
      clear n1 n2 w1 w2 w3' hh
      have q := kBound _ hX
      go_wp2_with fail
      refine q.mono ?_
      rintro e w9 ⟨rfl, hB⟩
      replace hX := hX.trans (hB.mono hX.size)
      replace hSg := hSg.below hB
      clear hB q
      go_wp2_with fail
      obtain ⟨W0, hW0⟩ : ∃ W0, W0 = w9.alloc (.cells #[.int .i64 lx, .int .i64 ly, .int .i64 lz, .int .i64 ux, .int .i64 uy, .int .i64 uz] 34) := ⟨_, rfl⟩
      rw [← hW0]
      have hz0 : W0.heap[w9.heap.size]? = some (.cells #[.int .i64 lx, .int .i64 ly, .int .i64 lz, .int .i64 ux, .int .i64 uy, .int .i64 uz] 34 (0, 0)) := by rw [hW0]; exact heap_alloc_new w9 _
      have hWB : Below w9.heap.size w9 W0 := by rw [hW0]; exact (Below.refl _ _).alloc (Nat.le_refl _) _
      have hlt : w9.heap.size < W0.heap.size := by rw [hW0]; simp
      have kB := fun V (h : Below W0.heap.size W0 V) => six_cells ((h.block w9.heap.size hlt).trans hz0)
      clear hW0
      have hV : Below W0.heap.size W0 W0.drew := (Below.refl _ _).drew
      have hb := kB _ hV
      obtain ⟨⟨z0, z1, z2, z3, z4, z5⟩, f0, f1, f2, f3, f4, f5⟩ := hb
      clear kBound
      refine oneWay (C := fun V => Below W0.heap.size W0 V) (G := ?G) ?rest (fun key => ?main)
      case main =>
        go_region_with (first | (go_at_call 11; (first | with_reducible refine (kM1 _).mono ?_ | with_reducible refine (kM2 _).mono ?_); rintro e w25 ⟨rfl, hB25⟩; have hV := hV.trans (hB25.mono hV.size); obtain ⟨⟨z0, z1, z2, z3, z4, z5⟩, f0, f1, f2, f3, f4, f5⟩ := kB _ hV; clear hB25))
        all_goals exact key _ hV
      case' rest =>
        clear hV z0 z1 z2 z3 z4 z5 f0 f1 f2 f3 f4 f5 kB kM1 kM2
        intro w25 hV
      have hz1 := (hV.block w9.heap.size hlt).trans hz0
      obtain ⟨W2, hW2⟩ : ∃ W2, W2 = ((((((w25.setCell ⟨w9.heap.size, 0, none⟩ (.int .i64 (lx - 2))).setCell ⟨w9.heap.size, 1, none⟩ (.int .i64 (ly - 2))).setCell ⟨w9.heap.size, 2, none⟩ (.int .i64 (lz - 2))).setCell ⟨w9.heap.size, 3, none⟩ (.int .i64 (ux + 2))).setCell ⟨w9.heap.size, 4, none⟩ (.int .i64 (uy + 2))).setCell ⟨w9.heap.size, 5, none⟩ (.int .i64 (uz + 2))) := ⟨_, rfl⟩
      rw [← hW2]
      have hz2 : W2.heap[w9.heap.size]? = some (.cells #[.int .i64 (lx - 2), .int .i64 (ly - 2), .int .i64 (lz - 2), .int .i64 (ux + 2), .int .i64 (uy + 2), .int .i64 (uz + 2)] 34 (0, 0)) := by rw [hW2]; exact box_stored hz1
      have hle := Nat.le_refl w9.heap.size
      have hB : Below w9.heap.size w9 W2 := by
        rw [hW2]
        exact ((((((hWB.trans (hV.mono hWB.size)).setCell (p := ⟨w9.heap.size, 0, none⟩) hle _).setCell (p := ⟨w9.heap.size, 1, none⟩) hle _).setCell (p := ⟨w9.heap.size, 2, none⟩) hle _).setCell (p := ⟨w9.heap.size, 3, none⟩) hle _).setCell (p := ⟨w9.heap.size, 4, none⟩) hle _).setCell (p := ⟨w9.heap.size, 5, none⟩) hle _
      have hlt2 : w9.heap.size < W2.heap.size := (Array.getElem?_eq_some_iff.1 hz2).1
      have kB2 := fun V (h : Below W2.heap.size W2 V) => (six_cells ((h.block w9.heap.size hlt2).trans hz2)).1
      replace hX := hX.trans (hB.mono hX.size)
      replace hSg := hSg.below hB
      have hY : Below W2.heap.size W2 W2 := Below.refl _ _
      have kSz : ∀ W, Calls Try.prog 13 #[.agg #[.int .i64 (lx - 2), .int .i64 (ly - 2), .int .i64 (lz - 2), .int .i64 (ux + 2), .int .i64 (uy + 2), .int .i64 (uz + 2)]] W fun e w' => e = .returned (.int .i64 (sizeB (wideB 2 ((lx, ly, lz), (ux, uy, uz))))) ∧ Below W.heap.size W w' := kSize
      have Hcs := Lib.hid (chk_sub (shr_sub n a) Hca.out)
      obtain ⟨S, hS⟩ : ∃ S, S = shrN n a := ⟨_, rfl⟩
      rw [← hS] at kSh Hcs
      have HS := Lib.hid hS
      clear hW2 hz1 hz0 hz2 hWB hV hlt hlt2 hle hB kSize hS
      have q := kSh _ hX
      go_wp2_with fail
      refine q.mono ?_
      rintro e w30 ⟨A8, k8, rfl, hSs, hB⟩
      replace hX := hX.trans (hB.mono hX.size)
      replace hY := hY.trans (hB.mono hY.size)
      replace hSg := hSg.below hB
      clear hB q
      have q := chkS hSs Hcs.out
      go_wp2_with fail
      refine q.mono ?_
      rintro e w31 ⟨rfl, hB⟩
      replace hX := hX.trans (hB.mono hX.size)
      replace hY := hY.trans (hB.mono hY.size)
      replace hSg := hSg.below hB
      replace hSs := hSs.below hB
      clear hB q
      obtain ⟨z0, z1, z2, z3, z4, z5⟩ := kB2 _ hY
      have q := kSz w31
      go_wp2_with fail
      refine q.mono ?_
      rintro e w32 ⟨rfl, hB⟩
      replace hX := hX.trans (hB.mono hX.size)
      replace hY := hY.trans (hB.mono hY.size)
      replace hSg := hSg.below hB
      replace hSs := hSs.below hB
      clear hB q z0 z1 z2 z3 z4 z5
      obtain ⟨SZ, hSZ⟩ : ∃ SZ, sizeB (wideB 2 ((lx, ly, lz), (ux, uy, uz))) = SZ := ⟨_, rfl⟩
      rw [hSZ]
      have HZ := Lib.hid hSZ
      clear hSZ kSz
      by_cases hs : SZ ≤ 400
      · have hs' : sizeB (wideB 2 ((lx, ly, lz), (ux, uy, uz))) ≤ 400 := HZ.out ▸ hs
        have hlB := len_boxL (wideB 2 ((lx, ly, lz), (ux, uy, uz))) hWd
        have kBl : ∀ W, Calls Try.prog 15 #[.agg #[.int .i64 (lx - 2), .int .i64 (ly - 2), .int .i64 (lz - 2), .int .i64 (ux + 2), .int .i64 (uy + 2), .int .i64 (uz + 2)]] W fun e w' => ∃ v, e = .returned v ∧ Own w' W.heap.size v (boxL (wideB 2 ((lx, ly, lz), (ux, uy, uz)))) ∧ Below W.heap.size W w' := refBlock_ok (wideB 2 ((lx, ly, lz), (ux, uy, uz))) (hN1.mono (by omega)) (hN2.mono (by omega)) (by omega)
        have cL := chk_box (b := wideB 2 ((lx, ly, lz), (ux, uy, uz))) (hN1.mono (by omega)) (hN2.mono (by omega)) hWd (by omega)
        have hLn : ∀ c ∈ boxL (wideB 2 ((lx, ly, lz), (ux, uy, uz))), Near c 102 := fun c hc => by
          have := (mem_boxL _ _).1 hc
          unfold Near at hN1 hN2 ⊢
          omega
        have hsm : ∀ i, i ≤ n → ∀ S' : List Cel, S'.Nodup → (∀ c ∈ S', c ∈ growN i ((boxL (wideB 2 ((lx, ly, lz), (ux, uy, uz)))).filter fun c => !decide (c ∈ a))) → S'.length ≤ 4000 := fun i hi S' h1 h2 => rest_small hwd hs' (fun c hc => (List.mem_filter.1 hc).1) (by omega) h1 h2
        have hleft : ∀ out, (∀ c, c ∈ out ↔ c ∈ growN n ((boxL (wideB 2 ((lx, ly, lz), (ux, uy, uz)))).filter fun c => !decide (c ∈ a))) → ((boxL (wideB 2 ((lx, ly, lz), (ux, uy, uz)))).filter fun c => !decide (c ∈ out)) = S := fun out ho => left_eq hin (by omega) ho (chkI_zero.1 Hca.out).2.2 HS.out
        clear hs' hlB hwd hin
        generalize boxL (wideB 2 ((lx, ly, lz), (ux, uy, uz))) = L at kBl cL hLn hsm hleft
        obtain ⟨R, hR⟩ : ∃ R, (L.filter fun c => !decide (c ∈ a)) = R := ⟨_, rfl⟩
        rw [hR] at hsm hleft
        have cR : chkI R = 0 := by rw [← hR]; exact chk_filter cL _
        have hRn : ∀ c ∈ R, Near c 200 := fun c hc => by
          rw [← hR] at hc
          exact (hLn c (List.mem_filter.1 hc).1).mono (by omega)
        have HR := Lib.hid hR
        have HcL := Lib.hid cL
        have HcR := Lib.hid cR
        clear hR cL cR hLn
        obtain ⟨z0, z1, z2, z3, z4, z5⟩ := kB2 _ hY
        have q := kBl w32
        go_wp2_with fail
        refine q.mono ?_
        rintro e w33 ⟨v33, rfl, ho, hB⟩
        replace hX := hX.trans (hB.mono hX.size)
        replace hY := hY.trans (hB.mono hY.size)
        replace hSg := hSg.below hB
        replace hSs := hSs.below hB
        have hSL := ho.sl
        obtain ⟨A33, k33, rfl⟩ := hSL.form
        clear ho
        clear hB q z0 z1 z2 z3 z4 z5
        have q := lessX HR.out hSL (hSta _ hX) HcL.out Hca.out
        go_wp2_with fail
        refine q.mono ?_
        rintro e w34 ⟨A34, k34, rfl, hSr, hB⟩
        replace hX := hX.trans (hB.mono hX.size)
        replace hY := hY.trans (hB.mono hY.size)
        replace hSg := hSg.below hB
        replace hSs := hSs.below hB
        replace hSL := hSL.below hB
        clear hB q
        have q := chkS hSr.1 HcR.out
        go_wp2_with fail
        refine q.mono ?_
        rintro e w35 ⟨rfl, hB⟩
        replace hX := hX.trans (hB.mono hX.size)
        replace hY := hY.trans (hB.mono hY.size)
        replace hSg := hSg.below hB
        replace hSs := hSs.below hB
        replace hSL := hSL.below hB
        replace hSr := hSr.below hB
        clear hB q
        have q := growS (n := n) hSr.1 HcR.out (by omega) hsm (near_in hRn (by omega))
        go_wp2_with fail
        refine q.mono ?_
        rintro e w36 ⟨out, uo, mo, co, A36, k36, rfl, hSo, hB⟩
        replace hX := hX.trans (hB.mono hX.size)
        replace hY := hY.trans (hB.mono hY.size)
        replace hSg := hSg.below hB
        replace hSs := hSs.below hB
        replace hSL := hSL.below hB
        replace hSr := hSr.below hB
        have Hco := Lib.hid co
        have hlf := Lib.hid (hleft out mo)
        clear hleft hsm hRn uo mo co
        clear hB q
        have q := chkS hSo.1 Hco.out
        go_wp2_with fail
        refine q.mono ?_
        rintro e w37 ⟨rfl, hB⟩
        replace hX := hX.trans (hB.mono hX.size)
        replace hY := hY.trans (hB.mono hY.size)
        replace hSg := hSg.below hB
        replace hSs := hSs.below hB
        replace hSL := hSL.below hB
        replace hSr := hSr.below hB
        replace hSo := hSo.below hB
        clear hB q
        obtain ⟨z0, z1, z2, z3, z4, z5⟩ := kB2 _ hY
        have q := kBl w37
        go_wp2_with fail
        refine q.mono ?_
        rintro e w38 ⟨v38, rfl, ho, hB⟩
        replace hX := hX.trans (hB.mono hX.size)
        replace hY := hY.trans (hB.mono hY.size)
        replace hSg := hSg.below hB
        replace hSs := hSs.below hB
        replace hSL := hSL.below hB
        replace hSr := hSr.below hB
        replace hSo := hSo.below hB
        have hSL2 := ho.sl
        obtain ⟨A38, k38, rfl⟩ := hSL2.form
        clear ho kBl
        clear hB q z0 z1 z2 z3 z4 z5
        have q := lessX hlf.out hSL2 hSo HcL.out Hco.out
        go_wp2_with fail
        refine q.mono ?_
        rintro e w39 ⟨A39, k39, rfl, hSf, hB⟩
        replace hX := hX.trans (hB.mono hX.size)
        replace hY := hY.trans (hB.mono hY.size)
        replace hSg := hSg.below hB
        replace hSs := hSs.below hB
        replace hSL := hSL.below hB
        replace hSr := hSr.below hB
        replace hSo := hSo.below hB
        replace hSL2 := hSL2.below hB
        clear hB q
        have q := sameX rfl hSf.1 hSs Hcs.out
        go_wp2_with fail
        refine q.mono ?_
        rintro e w40 ⟨rfl, hB⟩
        replace hX := hX.trans (hB.mono hX.size)
        replace hY := hY.trans (hB.mono hY.size)
        replace hSg := hSg.below hB
        replace hSs := hSs.below hB
        replace hSL := hSL.below hB
        replace hSr := hSr.below hB
        replace hSo := hSo.below hB
        replace hSL2 := hSL2.below hB
        replace hSf := hSf.below hB
        clear hSf hSs hSo hSL hSL2 hSr
        clear hB q
        have q := kD _ hX
        go_wp2_with fail
        refine q.mono ?_
        rintro e w41 ⟨far, rfl, hfar, hB⟩
        replace hX := hX.trans (hB.mono hX.size)
        replace hY := hY.trans (hB.mono hY.size)
        replace hSg := hSg.below hB
        have hf0 := least_pos hfar
        have hf1 : ¬ (far < 0) := by omega
        have hmq := meets_iff mg hfar
        obtain ⟨M, hM⟩ : ∃ M, (g.filter fun c => decide (c ∈ b)) = M := ⟨_, rfl⟩
        rw [hM] at hmq
        have HM := Lib.hid hM
        obtain ⟨qb, hq⟩ : ∃ qb, decide (far ≤ (n : Int)) = qb := ⟨_, rfl⟩
        rw [hq] at hmq
        clear hM hfar hf0
        clear hB q
        have q := cutX HM.out hSg.1 (hStb _ hX) Hcg.out Hcb.out
        go_wp2_with fail
        refine q.mono ?_
        rintro e w42 ⟨A40, k40, rfl, hSm, hB⟩
        replace hX := hX.trans (hB.mono hX.size)
        replace hY := hY.trans (hB.mono hY.size)
        replace hSg := hSg.below hB
        clear hB q
        have q := waxRing_ok w42
        go_wp2_with fail
        refine q.mono ?_
        rintro e w43 ⟨rfl, hB⟩
        replace hX := hX.trans (hB.mono hX.size)
        replace hY := hY.trans (hB.mono hY.size)
        replace hSg := hSg.below hB
        replace hSm := hSm.below hB
        clear hB q
        go_wp2_with fail
        go_ret
        exact ⟨rfl, hX⟩
      · have q := kD _ hX
        go_wp2_with fail
        refine q.mono ?_
        rintro e w33 ⟨far, rfl, hfar, hB⟩
        replace hX := hX.trans (hB.mono hX.size)
        replace hY := hY.trans (hB.mono hY.size)
        replace hSg := hSg.below hB
        replace hSs := hSs.below hB
        have hf0 := least_pos hfar
        have hf1 : ¬ (far < 0) := by omega
        have hmq := meets_iff mg hfar
        obtain ⟨M, hM⟩ : ∃ M, (g.filter fun c => decide (c ∈ b)) = M := ⟨_, rfl⟩
        rw [hM] at hmq
        have HM := Lib.hid hM
        obtain ⟨qb, hq⟩ : ∃ qb, decide (far ≤ (n : Int)) = qb := ⟨_, rfl⟩
        rw [hq] at hmq
        clear hM hfar hf0
        clear hB q
        have q := cutX HM.out hSg.1 (hStb _ hX) Hcg.out Hcb.out
        go_wp2_with fail
        refine q.mono ?_
        rintro e w34 ⟨A40, k40, rfl, hSm, hB⟩
        replace hX := hX.trans (hB.mono hX.size)
        replace hY := hY.trans (hB.mono hY.size)
        replace hSg := hSg.below hB
        replace hSs := hSs.below hB
        clear hB q
        have q := waxRing_ok w34
        go_wp2_with fail
        refine q.mono ?_
        rintro e w35 ⟨rfl, hB⟩
        replace hX := hX.trans (hB.mono hX.size)
        replace hY := hY.trans (hB.mono hY.size)
        replace hSg := hSg.below hB
        replace hSs := hSs.below hB
        replace hSm := hSm.below hB
        clear hB q
        go_wp2_with fail
        go_ret
        exact ⟨rfl, hX⟩
end Go.Proofs
