/- The reference's Path: the walk. -/
import Derived.Test.YtfdhppdkgfioaaaGreatDoorPthA
namespace Go.Proofs
open Go.RowKit
set_option maxHeartbeats 16000000
set_option maxRecDepth 1000000
theorem intV_rep (n : Nat) (cs : List Value) (hl : cs.length = n) (h : ∀ j, j < n → cs[j]? = some (.int .i64 (-1))) : cs = intV (List.replicate n (-1)) := by
  apply List.ext_getElem?
  intro j
  by_cases hj : j < n
  · rw [h j hj]
    simp [intV, hj]
  · rw [List.getElem?_eq_none (by omega), List.getElem?_eq_none (by simp [intV]; omega)]
theorem find_first {α : Type} (f : α → Bool) : ∀ (l : List α) (k : Nat) (d : α), l[k]? = some d → f d = true → (∀ (q : Nat) (e : α), q < k → l[q]? = some e → f e = false) → l.find? f = some d
  | [], k, d, h, _, _ => by simp at h
  | x :: l, 0, d, h, hd, _ => by
    obtain rfl : x = d := by simpa using h
    simp [hd]
  | x :: l, k + 1, d, h, hd, hn => by
    have hx := hn 0 x (by omega) rfl
    rw [List.find?_cons, hx]
    exact find_first f l k d (by simpa using h) hd fun q e hq he => hn (q + 1) e (by omega) (by simpa using he)
theorem refPath_ok (l : List Cel) (v : Value) (a b : Cel) (w : World) (hl : Sl w v l) (hc : chkI l = 0) (ha : a ∈ l) (hb : b ∈ l) :
    Calls Tryz.prog 19 #[v, cellV a, cellV b] w fun e w' => ∃ v', e = .returned (.tuple #[v', .bool (pathC l a b).isSome]) ∧ Own w' w.heap.size v' ((pathC l a b).getD []) ∧ Below w.heap.size w w' := by
  obtain ⟨hlen, hnear0, hup⟩ := chkI_zero.1 hc
  have hnd : l.Nodup := up_nodup hup
  have hnear : ∀ c ∈ l, Near c 3000 := fun c h => (hnear0 c h).mono (by omega)
  obtain ⟨ka, hka⟩ := List.mem_iff_getElem?.1 ha
  obtain ⟨kb, hkb⟩ := List.mem_iff_getElem?.1 hb
  have hkbl : kb < l.length := (List.getElem?_eq_some_iff.1 hkb).1
  obtain ⟨A, cap, rfl⟩ := hl.form
  obtain ⟨ax, ay, az⟩ := a
  obtain ⟨bx, by_, bz⟩ := b
  obtain ⟨j0, hj, hy0, hy1, hy2⟩ := info_parts (P := Tryz.prog) (e := 3) (z := .int .i64 0) (size := 1) (bytes := 8) (by kernel_rfl)
  obtain ⟨W0, hW0⟩ : ∃ W, W = (w.alloc (.cells #[.int .i64 ax, .int .i64 ay, .int .i64 az] 24)).alloc (.cells #[.int .i64 bx, .int .i64 by_, .int .i64 bz] 24) := ⟨_, rfl⟩
  have hB0 : Below w.heap.size w W0 := by subst hW0; exact ((Below.refl _ _).alloc (Nat.le_refl _) _).alloc (by simp) _
  have hCa : Boxed3 W0 w.heap.size (ax, ay, az) := by subst hW0; exact (Below.heap_alloc _ _ _ (by simp)).trans (World.alloc_heap_new w _)
  have hCb : Boxed3 W0 (w.heap.size + 1) (bx, by_, bz) := by
    subst hW0
    have h := World.alloc_heap_new (w.alloc (.cells #[.int .i64 ax, .int .i64 ay, .int .i64 az] 24)) (.cells #[.int .i64 bx, .int .i64 by_, .int .i64 bz] 24)
    rw [World.size_alloc] at h
    exact h
  have HS := Lib.hid (show W0.heap.size = w.heap.size + 2 by subst hW0; simp)
  unfold cellV
  dsimp only
  go_enter Tryz.func19, Tryz.ntmps19
  go_upto_region 1 with fail
  rw [← hW0]
  clear hW0
  go_wp2_with (at_make; refine wpList_make_full _ rfl _ _ 68 rfl W0.heap.size 3 j0 _ 1 Tryz.underlying68 hj hy0 hy1 .i64 .i64 _ _ l.length rfl rfl rfl rfl ?c1 ?c2 ?c3 ?_)
  case c1 => rw [hy2]; omega
  case c2 => unfold maxLen; omega
  case c3 => exact Nat.le_refl _
  intro w1 hown hgrow
  have hX1 : Below W0.heap.size W0 w1 := (Below.refl _ _).grown hgrow (Nat.le_refl _) (fun k hk => by cases hk)
  have hK := RowBl.made hown
  have hcl := hown.1
  clear hgrow hown
  have hlz : ((madeCells #[Value.int .i64 0] l.length).toList).length = l.length := by rw [toList_madeCells_one, List.length_replicate]
  generalize (madeCells #[Value.int .i64 0] l.length).toList = Z at hK hlz
  generalize hg : W0.heap.size = g at hK hX1 ⊢
  have HG := Lib.hid (show w.heap.size + 2 = g by have := HS.out; omega)
  have hX2 : Below g W0 w1 := hX1
  clear hX1 hcl hg HS
  go_wp2_with fail
  go_loopw [9] (fun i wr => ∃ (k : Nat) (cs : List Value), k ≤ l.length ∧ i = .int .i64 k ∧ RowBl wr 3 g cs ∧ cs.length = l.length ∧ (∀ j, j < k → cs[j]? = some (.int .i64 (-1))) ∧ Below g W0 wr) (fun i _ => l.length - (intOf i).toNat)
  case atStart => exact ⟨0, Z, Nat.zero_le _, rfl, hK, hlz, fun j h => absurd h (Nat.not_lt_zero j), hX2⟩
  case round =>
    clear hK hlz hX2
    obtain ⟨k, cs, hk, rfl, hrow, hcs, hall, hX⟩ := hrel
    rename World => w2
    rcases Nat.lt_or_eq_of_le hk with hkn | rfl
    · have hk0 : (0 : Int) ≤ k := by omega
      have hk1 : (k : Int) < l.length := by omega
      have wk := wrapS (n := (k : Int) + 1) (by omega)
      have hfz := hrow.fz k
      have hlt := hrow.lt
      obtain ⟨ov, ho⟩ : ∃ ov, cs[k]? = some ov := ⟨_, List.getElem?_eq_getElem (by omega)⟩
      have hcell := hrow.cell ho
      have hrow2 := hrow.set k (.int .i64 (-1))
      have hX3 : Below g W0 (w2.setCell ⟨g, k, none⟩ (.int .i64 (-1))) := hX.setCell (p := ⟨g, k, none⟩) (Nat.le_refl _) _
      have hall2 : ∀ j, j < k + 1 → (cs.set k (.int .i64 (-1)))[j]? = some (.int .i64 (-1)) := fun j hj => by
        rcases Nat.lt_or_eq_of_le (Nat.le_of_lt_succ hj) with h | rfl
        · rw [List.getElem?_set_ne (by omega)]
          exact hall j h
        · exact List.getElem?_set_self (by omega)
      have HK := Lib.hid (show k + 1 ≤ l.length from hkn)
      have HM := Lib.hid (show l.length - (k + 1) < l.length - k by omega)
      have HA := Lib.hid hall2
      have HL := Lib.hid (show (cs.set k (.int .i64 (-1))).length = l.length by rw [List.length_set, hcs])
      clear hall hall2 hcs hrow hX ho
      go_wp2_with fail
      go_roundw
      case rel => exact ⟨k + 1, _, HK.out, by simp, hrow2, HL.out, HA.out, hX3⟩
      case measure => exact HM.out
    · have hcs2 := intV_rep l.length cs hcs hall
      subst hcs2
      clear hall hcs hk
      have hgw : w.heap.size + 2 = g := HG.out
      have hwl : w.heap.size < g := by omega
      have hwl1 : w.heap.size + 1 < g := by omega
      have hlt := hrow.lt
      have hXw : Below w.heap.size w w2 := hB0.trans (hX.mono (by omega))
      have hCa2 : Boxed3 w2 w.heap.size (ax, ay, az) := (hX.block _ hwl).trans hCa
      have hCb2 : Boxed3 w2 (w.heap.size + 1) (bx, by_, bz) := (hX.block _ hwl1).trans hCb
      obtain ⟨b0, b1, b2⟩ := hCb2.cell
      dsimp only at b0 b1 b2
      have hO3 : Own (w2.alloc (.cells #[.int .i64 bx, .int .i64 by_, .int .i64 bz] 24)) w2.heap.size (.slice (some ⟨w2.heap.size, 0, none⟩) 1 1) [(bx, by_, bz)] := World.ownsRow_lit w2 _ 1 (Nat.le_refl _) (by unfold maxLen; omega) rfl
      have hX3 : Below w2.heap.size w2 (w2.alloc (.cells #[.int .i64 bx, .int .i64 by_, .int .i64 bz] 24)) := (Below.refl _ _).alloc (Nat.le_refl _) _
      have hCb3 : Boxed3 (w2.alloc (.cells #[.int .i64 bx, .int .i64 by_, .int .i64 bz] 24)) (w.heap.size + 1) (bx, by_, bz) := (hX3.block _ (by omega)).trans hCb2
      have hrow3 := hrow.below hX3
      have qA := at_in _ ((hl.below hXw).below hX3) (by omega) hnd hkb
      clear hgw hX hrow hB0 hCa hCb hCb2
      go_upto_region 7 with fail
      generalize w2.alloc (.cells #[.int .i64 bx, .int .i64 by_, .int .i64 bz] 24) = w3 at hO3 hX3 hCb3 hrow3 qA ⊢
      obtain ⟨b0, b1, b2⟩ := hCb3.cell
      dsimp only at b0 b1 b2
      have hkb0 : (0 : Int) ≤ kb := by omega
      have hkb1 : (kb : Int) < l.length := by omega
      have hfz := fun W (h : Below w3.heap.size w3 W) => (hrow3.below h).fz kb
      have hcb := fun W (h : Below w3.heap.size w3 W) => (hrow3.below h).cell (intV_at (x := -1) (show (List.replicate l.length (-1 : Int))[kb]? = some (-1) by simp [hkbl]))
      obtain ⟨st, hst, hst0, hstn⟩ := StR.start hnd hkb
      have HST := Lib.hid (And.intro hst (And.intro hst0 hstn))
      clear hst hst0 hstn
      go_upto_region 8 with (go_at_call 22; refine qA.mono ?_; rintro e w4 ⟨rfl, hB4⟩; have fz4 := hfz _ hB4; have cb4 := hcb _ hB4)
      have hlt4 : g < w4.heap.size := by have := hB4.size; have := hX3.size; omega
      have hk4 : Keep1 w4.heap.size g w4 (w4.setCell ⟨g, kb, none⟩ (.int .i64 0)) := Keep1.set _ _ _ _
      have pr0 : PathR w2 g l (bx, by_, bz) 0 0 st ((List.replicate l.length (-1)).set kb 0) (.slice (some ⟨w2.heap.size, 0, none⟩) 1 1) [(bx, by_, bz)] (w4.setCell ⟨g, kb, none⟩ (.int .i64 0)) := by
        obtain ⟨h1, h2, h3⟩ := HST.out
        refine ⟨?_, (hO3.keep hB4).keepG hk4 hlt, ((Keep1.of_below hX3).trans (Keep1.of_below (hB4.mono hX3.size))).trans (hk4.mono (by have := hB4.size; have := hX3.size; omega)), h1, BfsI.start hb h2 h3, fun c n h => ?_⟩
        · have h := (hrow3.below hB4).set kb (.int .i64 0)
          rwa [intV_set] at h
        · by_cases hc2 : c = (bx, by_, bz)
          · subst hc2
            rw [h2] at h
            obtain rfl := Option.some.inj h
            simp
          · rw [h3 c hc2] at h
            cases h
      generalize w4.setCell ⟨g, kb, none⟩ (.int .i64 0) = w5 at pr0 ⊢
      generalize (List.replicate l.length (-1)).set kb 0 = s0 at pr0
      clear hfz hcb fz4 cb4 hlt4 hk4 b0 b1 b2 qA hO3 hX3 hCb3 hrow3 hB4 HST
      go_wp2_with fail
      go_loopw [10, 11] (fun vq ii wr => ∃ (i : Nat) (st : Cel → Option Nat) (s : List Int) (q : List Cel), i ≤ q.length ∧ ii = .int .i64 i ∧ PathR w2 g l (bx, by_, bz) i 0 st s vq q wr) (fun _ ii _ => l.length - (intOf ii).toNat)
      case atStart => exact ⟨0, st, s0, _, Nat.zero_le _, rfl, pr0⟩
      case round =>
        clear pr0 st s0
        obtain ⟨i, st, s, q, hi, rfl, pr⟩ := hrel
        rename World => w6
        have hql := pr.len
        have hform := pr.own.sl.form
        obtain ⟨Aq, cq, rfl⟩ := hform
        rcases Nat.lt_or_eq_of_le hi with hin | rfl
        · have hi0 : (0 : Int) ≤ i := by omega
          have hi1 : (i : Int) < q.length := by omega
          have wi := wrapS (n := (i : Int) + 1) (by omega)
          obtain ⟨bq, oq, ex, ey, ez, rfl, -, hbq, he, e0, e1, e2⟩ := pr.own.sl.cells hin
          have qN := refNear_ok (ex, ey, ez) (hnear _ (pr.bfs.mem _ (List.mem_of_getElem? he))) w6
          unfold cellV at qN
          dsimp only at qN
          have HE := Lib.hid he
          clear he
          go_upto_region 12 with (go_at_call 61; refine qN.mono ?_; rintro e w7 ⟨vn, rfl, hownN, hB7⟩)
          have pr7 := pr.below hB7
          have hN7 := hownN.lay
          obtain ⟨B9, c9, rfl, hB9, hB9w⟩ : ∃ B9 c9, vn = .slice (some ⟨B9, 0, none⟩) 6 c9 ∧ w6.heap.size ≤ B9 ∧ B9 < w7.heap.size := by
            rcases hownN.form with ⟨-, h⟩ | ⟨g9, c9, h, h1, h2, -⟩
            · cases h
            · exact ⟨g9, c9, h, h1, h2⟩
          have hsep : (Value.slice (some ⟨bq, oq, none⟩) q.length cq).ownBlock ≠ some B9 := fun e => by
            have := (pr.own.lt _ e).2
            omega
          have hgB9 : g ≠ B9 := by have := pr.row.lt; omega
          have hVB9 : w2.heap.size ≤ w6.heap.size := pr.keep.size
          clear pr e0 e1 e2 qN hownN hB7
          go_wp2_with fail
          go_loopw [10, 13] (fun vq jj wr => ∃ (j : Nat) (st : Cel → Option Nat) (s : List Int) (q : List Cel), j ≤ 6 ∧ jj = .int .i64 j ∧ q[i]? = some (ex, ey, ez) ∧ PathR w2 g l (bx, by_, bz) i j st s vq q wr ∧ LayC wr w6.heap.size (.slice (some ⟨B9, 0, none⟩) 6 c9) (nearL (ex, ey, ez)) ∧ vq.ownBlock ≠ some B9) (fun _ jj _ => 6 - (intOf jj).toNat)
          case atStart => exact ⟨0, st, s, q, Nat.zero_le _, rfl, HE.out, pr7, hN7, hsep⟩
          case round =>
            clear pr7 hN7 hsep hi0 hi1 hi hin hql HE hbq hB9w
            obtain ⟨j, st, s, q, hj, rfl, he, pr, hN, hsep⟩ := hrel
            rename World => w8
            have hql := pr.len
            have hil : i < q.length := (List.getElem?_eq_some_iff.1 he).1
            have hform := pr.own.sl.form
            obtain ⟨Aq, cq, rfl⟩ := hform
            have hlt8 : g < w8.heap.size := pr.row.lt
            have hX8 : Below w.heap.size w w8 := Below.keep1 hXw pr.keep (by omega) (by omega)
            rcases Nat.lt_or_eq_of_le hj with hjn | rfl
            · have hj0 : (0 : Int) ≤ j := by omega
              have hj1 : (j : Int) < 6 := by omega
              have wj := wrapS (n := (j : Int) + 1) (by omega)
              obtain ⟨b9, o9, dx, dy, dz, e9, -, hb9, hd, d0, d1, d2⟩ := hN.1.cells (k := j) hjn
              injection e9 with e9
              injection e9 with e91 e92
              subst e91 e92
              rw [Nat.zero_add] at d0 d1 d2
              have HJ := Lib.hid (show j + 1 ≤ 6 from hjn)
              have HM2 := Lib.hid (show 6 - (j + 1) < 6 - j by omega)
              by_cases hdl : (dx, dy, dz) ∈ l
              · obtain ⟨kd, hkd⟩ := List.mem_iff_getElem?.1 hdl
                have hkdl : kd < l.length := (List.getElem?_eq_some_iff.1 hkd).1
                have hkd0 : (0 : Int) ≤ kd := by omega
                have hkd1 : (kd : Int) < l.length := by omega
                have qA := at_in w8 (hl.below hX8) (by omega) hnd hkd
                have hsd := pr.str.at_ _ _ hkd
                have hcd := fun W (h : Below w8.heap.size w8 W) => (pr.row.below h).cell (intV_at hsd)
                cases hst : st (dx, dy, dz) with
                | some n =>
                  have hpi := pr.bfs.skip he hd (fun _ => ⟨n, hst⟩)
                  have HP := Lib.hid hpi
                  have HQ := Lib.hid he
                  rw [hst] at hcd
                  have hcd' : ∀ W, Below w8.heap.size w8 W → W.cell? ⟨g, kd, none⟩ = some (.int .i64 (n : Int)) := hcd
                  have hn0 : ¬ (n : Int) < 0 := by omega
                  clear hpi he hd hdl hst hsd hcd
                  go_wp2_with (go_at_call 22; refine qA.mono ?_; rintro e w9 ⟨rfl, hB9'⟩; have cd9 := hcd' _ hB9')
                  have pr9 := pr.below hB9'
                  have hN9 := hN.keep hB9'
                  go_roundw
                  case rel => exact ⟨j + 1, st, s, q, HJ.out, by simp, HQ.out, { pr9 with bfs := HP.out }, hN9, hsep⟩
                  case measure => exact HM2.out
                | none =>
                  rw [hst] at hcd
                  have hcd' : ∀ W, Below w8.heap.size w8 W → W.cell? ⟨g, kd, none⟩ = some (.int .i64 (-1)) := hcd
                  obtain ⟨m, hm⟩ := (pr.bfs.know _).1 (List.mem_of_getElem? he)
                  have hml := pr.bd _ _ hm
                  have hxl : (ex, ey, ez) ∈ l := pr.bfs.mem _ (List.mem_of_getElem? he)
                  obtain ⟨kx, hkx⟩ := List.mem_iff_getElem?.1 hxl
                  have hkxl : kx < l.length := (List.getElem?_eq_some_iff.1 hkx).1
                  have hkx0 : (0 : Int) ≤ kx := by omega
                  have hkx1 : (kx : Int) < l.length := by omega
                  have hi0 : (0 : Int) ≤ i := by omega
                  have hi1 : (i : Int) < q.length := by omega
                  have hsx := pr.str.at_ _ _ hkx
                  rw [hm] at hsx
                  have hcx : ∀ W, Below w8.heap.size w8 W → W.cell? ⟨g, kx, none⟩ = some (.int .i64 (m : Int)) := fun W h => (pr.row.below h).cell (intV_at hsx)
                  have hfz := fun W (h : Below w8.heap.size w8 W) => (pr.row.below h).fz kd
                  have wm := wrapS (n := (m : Int) + 1) (by omega)
                  obtain ⟨bq, oq, ex', ey', ez', rfl, -, hbq, he', e0, e1, e2⟩ := pr.own.sl.cells hil
                  obtain ⟨rfl, rfl, rfl⟩ : ex' = ex ∧ ey' = ey ∧ ez' = ez := by
                    have h := Option.some.inj (he'.symm.trans he)
                    injection h with h1 h2
                    injection h2 with h2 h3
                    exact ⟨h1, h2, h3⟩
                  have hcq := fun W (h : Below w8.heap.size w8 W) => And.intro ((h.cell (p := ⟨bq, _, none⟩) hbq).trans e0) (And.intro ((h.cell (p := ⟨bq, _, none⟩) hbq).trans e1) ((h.cell (p := ⟨bq, _, none⟩) hbq).trans e2))
                  obtain ⟨st', hp1, hp2, hp3⟩ := pr.str.push hnd (m + 1) hkd
                  have hbfs := pr.bfs.push he hm hd hdl hst hp2 hp3
                  have hbd : ∀ c n, st' c = some n → n < (q ++ [(dx, dy, dz)]).length := fun c n h => by
                    rw [List.length_append]
                    by_cases hcd2 : c = (dx, dy, dz)
                    · subst hcd2
                      rw [hp2] at h
                      obtain rfl := Option.some.inj h
                      simp
                      exact hml
                    · rw [hp3 c hcd2] at h
                      have := pr.bd c n h
                      omega
                  have HPU := Lib.hid (And.intro hp1 (And.intro hbfs hbd))
                  have HQ := Lib.hid he
                  have HD9 := Lib.hid hd
                  have hX8l := hl.below hX8
                  have hB9w : B9 < w8.heap.size := hb9
                  clear hp1 hp2 hp3 hbfs hbd he he' hd hdl hst hsd hcd hm hml hxl hsx e0 e1 e2
                  go_upto_region 16 with (go_at_call 22; refine qA.mono ?_; rintro e w9 ⟨rfl, hB9'⟩; have cd9 := hcd' _ hB9')
                  have qA2 := at_in w9 (hX8l.below hB9') (by omega) hnd hkx
                  obtain ⟨e0, e1, e2⟩ := hcq _ hB9'
                  go_upto_region 18 with (go_at_call 22; refine qA2.mono ?_; rintro e w10 ⟨rfl, hB10⟩; have hX10 := hB9'.trans (hB10.mono hB9'.size); have cx10 := hcx _ hX10; have fz10 := hfz _ hX10; have cd10 := hcd' _ hX10)
                  have pr10 := pr.below hX10
                  have hN10 := hN.keep hX10
                  have hlt10 : g < w10.heap.size := pr10.row.lt
                  have hk10 : Keep1 w10.heap.size g w10 (w10.setCell ⟨g, kd, none⟩ (.int .i64 ((m : Int) + 1))) := Keep1.set _ _ _ _
                  have hown11 := pr10.own.keepG hk10 (by omega)
                  have hrow11 : RowBl (w10.setCell ⟨g, kd, none⟩ (.int .i64 ((m : Int) + 1))) 3 g (intV (s.set kd ((m : Int) + 1))) := by
                    have h := pr10.row.set kd (.int .i64 ((m : Int) + 1))
                    rwa [intV_set] at h
                  have hK11 := pr10.keep.trans (hk10.mono pr10.keep.size)
                  have hN11 : LayC (w10.setCell ⟨g, kd, none⟩ (.int .i64 ((m : Int) + 1))) w6.heap.size (.slice (some ⟨B9, 0, none⟩) 6 c9) (nearL (ex', ey', ez')) := hN10.keepB hk10.size fun k e => by
                    obtain rfl : B9 = k := by simpa [Value.ownBlock] using e
                    exact hk10.block _ (by have := hX10.size; omega) (fun e => hgB9 e.symm)
                  have hsz11 : w2.heap.size ≤ (w10.setCell ⟨g, kd, none⟩ (.int .i64 ((m : Int) + 1))).heap.size := hK11.size
                  have hB911 : B9 < (w10.setCell ⟨g, kd, none⟩ (.int .i64 ((m : Int) + 1))).heap.size := by have := hX10.size; have := hk10.size; omega
                  clear cd9 cx10 fz10 cd10 pr10 hN10 pr hN qA qA2 hcq hcx hfz hcd' e0 e1 e2 d0 d1 d2 hX8 hX8l hk10 hlt10 hX10 hB9' hB10
                  generalize w10.setCell ⟨g, kd, none⟩ (.int .i64 ((m : Int) + 1)) = w11 at hown11 hrow11 hK11 hN11 hsz11 hB911 ⊢
                  obtain ⟨b9, o9, dx', dy', dz', e9, -, -, hd2, d0, d1, d2⟩ := hN11.1.cells (k := j) hjn
                  injection e9 with e9
                  injection e9 with e91 e92
                  subst e91 e92
                  rw [Nat.zero_add] at d0 d1 d2
                  obtain ⟨rfl, rfl, rfl⟩ : dx' = dx ∧ dy' = dy ∧ dz' = dz := by
                    have h := Option.some.inj (hd2.symm.trans HD9.out)
                    injection h with h1 h2
                    injection h2 with h2 h3
                    exact ⟨h1, h2, h3⟩
                  obtain ⟨A2, c2, w12, hap, hown12, hB12, hks, hsp⟩ := run_append_cel w11 22 w2.heap.size _ q (dx', dy', dz') hown11 (by omega) hsz11
                  have hN12 : LayC w12 w6.heap.size (.slice (some ⟨B9, 0, none⟩) 6 c9) (nearL (ex', ey', ez')) := hN11.keepB (by have := hB12.size; omega) fun k e => by
                    obtain rfl : B9 = k := by simpa [Value.ownBlock] using e
                    exact hks _ hB911 hsep
                  have hsep12 := hsp B9 hB911 hsep
                  have pr12 : PathR w2 g l (bx, by_, bz) i (j + 1) st' (s.set kd ((m : Int) + 1)) (.slice A2 (q.length + 1) c2) (q ++ [(dx', dy', dz')]) w12 :=
                    ⟨hrow11.keep (hB12.block g (by omega)), hown12, hK11.trans (Keep1.of_below hB12), HPU.out.1, HPU.out.2.1, HPU.out.2.2⟩
                  have HAP := Lib.hid hap
                  clear hap hown12 hB12 hks hsp hrow11 hown11 hK11 hN11 hd2 hsep
                  go_wp2_with (at_builtin; refine Lib.wpList_append_run _ rfl _ _ _ _ rfl _ _ rfl rfl _ _ HAP.out ?_)
                  go_roundw
                  case rel => exact ⟨j + 1, _, _, _, HJ.out, by simp, by rw [List.getElem?_append_left hil]; exact HQ.out, pr12, hN12, hsep12⟩
                  case measure => exact HM2.out
              · have qA := at_out w8 (hl.below hX8) (by omega) hdl
                have hpi := pr.bfs.skip he hd (fun h => absurd h hdl)
                have HP := Lib.hid hpi
                have HQ := Lib.hid he
                clear hpi he hd hdl
                go_wp2_with (go_at_call 22; refine qA.mono ?_; rintro e w9 ⟨rfl, hB9'⟩)
                have pr9 := pr.below hB9'
                have hN9 := hN.keep hB9'
                go_roundw
                case rel => exact ⟨j + 1, st, s, q, HJ.out, by simp, HQ.out, { pr9 with bfs := HP.out }, hN9, hsep⟩
                case measure => exact HM2.out
            · have hpi := PathR.mk pr.row pr.own pr.keep pr.str (BfsI.next he pr.bfs) pr.bd
              have HM3 := Lib.hid (show l.length - (i + 1) < l.length - i by omega)
              have HIL := Lib.hid (show i + 1 ≤ q.length from hil)
              clear pr hN hsep he
              go_wp2_with fail
              go_roundw
              case rel => exact ⟨i + 1, st, s, q, HIL.out, by simp, hpi⟩
              case measure => exact HM3.out
        · have hst := bfs_end pr.bfs (Nat.le_refl _)
          subst hst
          have hg6 : g < w6.heap.size := pr.row.lt
          have hX6 : Below w.heap.size w w6 := Below.keep1 hXw pr.keep (by omega) (by omega)
          have hCa6 : Boxed3 w6 w.heap.size (ax, ay, az) := (pr.keep.block _ (by omega) (by omega)).trans hCa2
          have hsa := pr.str.at_ _ _ hka
          have hstr := pr.str
          have hrow6 := pr.row
          have hkal : ka < l.length := (List.getElem?_eq_some_iff.1 hka).1
          have hka0 : (0 : Int) ≤ ka := by omega
          have hka1 : (ka : Int) < l.length := by omega
          have qA := at_in w6 (hl.below hX6) (by omega) hnd hka
          obtain ⟨a0, a1, a2⟩ := hCa6.cell
          dsimp only at a0 a1 a2
          have hlw6 := hl.below hX6
          have hwl6 : w.heap.size < w6.heap.size := by omega
          clear pr hXw hCa2 b0 b1 b2 hi hlt
          cases hst : stC l (bx, by_, bz) (ax, ay, az) with
          | none =>
            have hP : pathC l (ax, ay, az) (bx, by_, bz) = none := by unfold pathC; rw [hst]; rfl
            rw [hst] at hsa
            have hca : ∀ W, Below w6.heap.size w6 W → W.cell? ⟨g, ka, none⟩ = some (.int .i64 (-1)) := fun W h => (hrow6.below h).cell (intV_at hsa)
            have HPP := Lib.hid hP
            clear hst hP hsa hstr
            go_wp2_with (go_at_call 22; refine qA.mono ?_; rintro e w7 ⟨rfl, hB7⟩; have ca7 := hca _ hB7)
            go_ret2
            rw [HPP.out]
            exact ⟨_, rfl, Own.nil _ _, hX6.trans (hB7.mono (by omega))⟩
          | some n =>
            have hP : pathC l (ax, ay, az) (bx, by_, bz) = some (pathF nearL (stC l (bx, by_, bz)) n (ax, ay, az)) := by unfold pathC; rw [hst]; rfl
            have hnl := pathC_len hb hst
            rw [hst] at hsa
            have hca : ∀ W, Below w6.heap.size w6 W → W.cell? ⟨g, ka, none⟩ = some (.int .i64 (n : Int)) := fun W h => (hrow6.below h).cell (intV_at hsa)
            have hn0 : ¬ (n : Int) < 0 := by omega
            have HPP := Lib.hid hP
            have HST := Lib.hid hst
            clear hst hP hsa
            go_upto_region 21 with (go_at_call 22; refine qA.mono ?_; rintro e w7 ⟨rfl, hB7⟩; have ca7 := hca _ hB7)
            have hCa7 : Boxed3 w7 w.heap.size (ax, ay, az) := (hB7.block _ hwl6).trans hCa6
            obtain ⟨f0, f1, f2⟩ := hCa7.cell
            dsimp only at f0 f1 f2
            have hO8 : Own (w7.alloc (.cells #[.int .i64 ax, .int .i64 ay, .int .i64 az] 24)) w7.heap.size (.slice (some ⟨w7.heap.size, 0, none⟩) 1 1) [(ax, ay, az)] := World.ownsRow_lit w7 _ 1 (Nat.le_refl _) (by unfold maxLen; omega) rfl
            have hX8 : Below w7.heap.size w7 (w7.alloc (.cells #[.int .i64 ax, .int .i64 ay, .int .i64 az] 24)) := (Below.refl _ _).alloc (Nat.le_refl _) _
            have hwl7 : w.heap.size < w7.heap.size := by have := hB7.size; omega
            have hCa8 : Boxed3 (w7.alloc (.cells #[.int .i64 ax, .int .i64 ay, .int .i64 az] 24)) w.heap.size (ax, ay, az) := (hX8.block _ hwl7).trans hCa7
            have qA2 := at_in _ ((hlw6.below hB7).below hX8) (by omega) hnd hka
            have hrow7 := hrow6.below hB7
            have hlw7 := hlw6.below hB7
            have hX7 : Below w.heap.size w w7 := hX6.trans (hB7.mono (by omega))
            have hca8 : ∀ W, Below w7.heap.size w7 W → W.cell? ⟨g, ka, none⟩ = some (.int .i64 (n : Int)) := fun W h => (h.cell (p := ⟨g, _, none⟩) hrow7.lt).trans ca7
            clear qA hca ca7 a0 a1 a2 hCa6 hrow6 hlw6 hX6
            go_upto_region 22 with fail
            generalize w7.alloc (.cells #[.int .i64 ax, .int .i64 ay, .int .i64 az] 24) = w8 at hO8 hX8 hCa8 qA2 ⊢
            clear f0 f1 f2
            obtain ⟨f0, f1, f2⟩ := hCa8.cell
            dsimp only at f0 f1 f2
            go_upto_region 23 with (go_at_call 22; refine qA2.mono ?_; rintro e w9 ⟨rfl, hB9⟩; have hX9 := hX8.trans (hB9.mono hX8.size); have ca9 := hca8 _ hX9)
            have hO9 := hO8.keep hB9
            have hsteps : ∀ W, Below w7.heap.size w7 W → ∀ (kd : Nat) (d : Cel), l[kd]? = some d → W.cell? ⟨g, kd, none⟩ = some (.int .i64 (stV (stC l (bx, by_, bz) d))) := fun W h kd d hd => ((hrow7.below h).cell (intV_at (hstr.at_ kd d hd)))
            have HSTEP := Lib.hid hsteps
            have HN := Lib.hid hnl
            clear hsteps hnl hstr hrow7 ca9 hca8 qA2 f0 f1 f2 hCa8 hCa7 hO8 hX8 hB9
            go_loopw [15, 16] (fun vo nn wr => ∃ (m : Nat) (p : List Cel) (c : Cel), nn = .int .i64 m ∧ m ≤ n ∧ p.length + m = n ∧ pathF nearL (stC l (bx, by_, bz)) n (ax, ay, az) = p ++ pathF nearL (stC l (bx, by_, bz)) m c ∧ stC l (bx, by_, bz) c = some m ∧ Own wr w7.heap.size vo (p ++ [c]) ∧ Below w7.heap.size w7 wr) (fun _ nn _ => (intOf nn).toNat)
            case atStart => exact ⟨n, [], (ax, ay, az), rfl, Nat.le_refl _, by simp, rfl, HST.out, hO9, hX9⟩
            case round =>
              clear hO9 hX9
              obtain ⟨m, p, c, rfl, hmn, hpm, hpath, hstc, hown, hX⟩ := hrel
              rename World => w10
              have hform := hown.sl.form
              have HPM := Lib.hid hpm
              have HPA := Lib.hid hpath
              have HSC := Lib.hid hstc
              clear hpath
              have hplen : p.length ≤ 4096 := by have := HN.out; omega
              clear hpm
              cases m with
              | zero =>
                obtain ⟨Ao, co, rfl⟩ := hform
                go_wp2_with fail
                go_ret2
                rw [HPP.out]
                refine ⟨_, rfl, ?_, hX7.trans (hX.mono (by omega))⟩
                show Own _ _ _ (pathF nearL (stC l (bx, by_, bz)) n (ax, ay, az))
                rw [HPA.out]
                exact hown.mono (by omega)
              | succ m =>
                have hml : m + 1 ≤ 4096 := by have := HN.out; omega
                obtain ⟨x, y, z⟩ := c
                obtain ⟨q, hq⟩ : ∃ q, q = p ++ [(x, y, z)] := ⟨_, rfl⟩
                rw [← hq] at hown hform
                obtain ⟨Ao, co, rfl⟩ := hform
                have hql : q.length = p.length + 1 := by rw [hq]; simp
                have hqp : p.length < q.length := by omega
                have hqn : q.length ≤ 5000 := by omega
                obtain ⟨bo, oo, x', y', z', rfl, -, hbo, ho, o0, o1, o2⟩ := hown.sl.cells hqp
                obtain ⟨rfl, rfl, rfl⟩ : x' = x ∧ y' = y ∧ z' = z := by
                  rw [hq, List.getElem?_append_right (Nat.le_refl _), Nat.sub_self] at ho
                  have h := Option.some.inj ho
                  injection h with h1 h2
                  injection h2 with h2 h3
                  exact ⟨h1.symm, h2.symm, h3.symm⟩
                have wl : IntKind.i64.wrap ((q.length : Int) - 1) = (p.length : Int) := by rw [wrapS (by omega)]; omega
                have hp0 : (0 : Int) ≤ p.length := by omega
                have hp1 : (p.length : Int) < q.length := by omega
                have hm1 : (0 : Int) < ((m + 1 : Nat) : Int) := by omega
                have wm : IntKind.i64.wrap (((m + 1 : Nat) : Int) - 1) = (m : Int) := by rw [wrapS (by omega)]; omega
                have HQ := Lib.hid (And.intro hq hql)
                have hxl : (x', y', z') ∈ l := stC_mem hb hstc
                have qN := refNear_ok (x', y', z') (hnear _ hxl) w10
                unfold cellV at qN
                dsimp only at qN
                have HFI := Lib.hid ((Known.of_self l (bx, by_, bz) (m + 1)).find (Nat.le_refl _) hstc)
                clear hq hql ho hstc hxl hqp
                go_upto_region 26 with (go_at_call 61; refine qN.mono ?_; rintro e w11 ⟨vn, rfl, hownN, hB11⟩)
                obtain ⟨B9, c9, rfl, hB9, hB9w⟩ : ∃ B9 c9, vn = .slice (some ⟨B9, 0, none⟩) 6 c9 ∧ w10.heap.size ≤ B9 ∧ B9 < w11.heap.size := by
                  rcases hownN.form with ⟨-, h⟩ | ⟨g9, c9, h, h1, h2, -⟩
                  · cases h
                  · exact ⟨g9, c9, h, h1, h2⟩
                have hN11 := hownN.sl
                have hown11 := hown.keep hB11
                have hX11 := hX.trans (hB11.mono hX.size)
                clear hown hownN qN o0 o1 o2 hX hB11 hB9w
                go_wp2_with fail
                go_loopw [18] (fun kk wr => ∃ k : Nat, kk = .int .i64 k ∧ (∀ (q : Nat) (d : Cel), q < k → (nearL (x', y', z'))[q]? = some d → stC l (bx, by_, bz) d ≠ some m) ∧ Below w11.heap.size w11 wr) (fun kk _ => 6 - (intOf kk).toNat)
                case atStart => exact ⟨0, rfl, fun q d h => absurd h (Nat.not_lt_zero q), Below.refl _ _⟩
                case round =>
                  obtain ⟨k, rfl, hno, hX12⟩ := hrel
                  rename World => w12
                  have hk6 : k < 6 := by
                    obtain ⟨d, hd, hs⟩ := HFI.out
                    obtain ⟨k0, hk0⟩ := List.mem_iff_getElem?.1 hd
                    have h6 : k0 < 6 := (List.getElem?_eq_some_iff.1 hk0).1
                    apply Decidable.byContradiction
                    intro h
                    exact hno k0 d (by omega) hk0 hs
                  have hk0 : (0 : Int) ≤ k := by omega
                  have hk1 : (k : Int) < 6 := by omega
                  have wk := wrapS (n := (k : Int) + 1) (by omega)
                  obtain ⟨b9, o9, dx, dy, dz, e9, -, hb9, hd, d0, d1, d2⟩ := (hN11.below hX12).cells (k := k) hk6
                  injection e9 with e9
                  injection e9 with e91 e92
                  subst e91 e92
                  rw [Nat.zero_add] at d0 d1 d2
                  have hX712 : Below w7.heap.size w7 w12 := hX11.trans (hX12.mono hX11.size)
                  have HM5 := Lib.hid (show 6 - (k + 1) < 6 - k by omega)
                  have hnext : stC l (bx, by_, bz) (dx, dy, dz) ≠ some m → ∀ (q : Nat) (d : Cel), q < k + 1 → (nearL (x', y', z'))[q]? = some d → stC l (bx, by_, bz) d ≠ some m := fun h q d hq hqd => by
                    rcases Nat.lt_or_eq_of_le (Nat.le_of_lt_succ hq) with h1 | rfl
                    · exact hno q d h1 hqd
                    · rw [hd] at hqd
                      obtain rfl := Option.some.inj hqd
                      exact h
                  by_cases hdl : (dx, dy, dz) ∈ l
                  · obtain ⟨kd, hkd⟩ := List.mem_iff_getElem?.1 hdl
                    have hkdl : kd < l.length := (List.getElem?_eq_some_iff.1 hkd).1
                    have hkd0 : ¬ (kd : Int) < 0 := by omega
                    have hkd0' : (0 : Int) ≤ kd := by omega
                    have hkd1 : (kd : Int) < l.length := by omega
                    have qA := fun W (h : Below w12.heap.size w12 W) => at_in W ((hlw7.below hX712).below h) (by omega) hnd hkd
                    have hcd := fun W (h : Below w12.heap.size w12 W) => HSTEP.out W (hX712.trans (h.mono hX712.size)) kd _ hkd
                    have hcq := fun W (h : Below w12.heap.size w12 W) => And.intro ((h.cell (p := ⟨B9, _, none⟩) hb9).trans d0) (And.intro ((h.cell (p := ⟨B9, _, none⟩) hb9).trans d1) ((h.cell (p := ⟨B9, _, none⟩) hb9).trans d2))
                    have q1 := qA w12 (Below.refl _ _)
                    by_cases hs : stC l (bx, by_, bz) (dx, dy, dz) = some m
                    · have hfi : (nearL (x', y', z')).find? (fun d => decide (stC l (bx, by_, bz) d = some m)) = some (dx, dy, dz) := find_first _ _ k _ hd (decide_eq_true hs) fun q e hq he => decide_eq_false (hno q e hq he)
                      have hpn := pathF_next hfi
                      have HPN := Lib.hid hpn
                      have HS := Lib.hid hs
                      rw [hs] at hcd
                      have hcd' : ∀ W, Below w12.heap.size w12 W → W.cell? ⟨g, kd, none⟩ = some (.int .i64 (m : Int)) := hcd
                      have hne : ((m : Int) != (m : Int)) = false := by simp
                      clear hs hno hnext hd hkd hdl hcd hfi hpn
                      go_upto_region 29 with (first
                        | (go_at_call 22; with_reducible refine q1.mono ?_; rintro e w13 ⟨rfl, hB13⟩; have q2 := qA _ hB13; obtain ⟨g0, g1, g2⟩ := hcq _ hB13)
                        | (go_at_call 22; with_reducible refine q2.mono ?_; rintro e w14 ⟨rfl, hB14⟩; have hX14 := hB13.trans (hB14.mono hB13.size); have cd14 := hcd' _ hX14))
                      have hX1114 := hX12.trans (hX14.mono hX12.size)
                      have hown14 := hown11.keep hX1114
                      obtain ⟨h0, h1, h2⟩ := hcq _ hX14
                      have hX714 := hX712.trans (hX14.mono hX712.size)
                      have hsz14 : w7.heap.size ≤ w14.heap.size := hX714.size
                      clear hcq hcd' qA q1 q2 cd14 g0 g1 g2 d0 d1 d2 hown11 hX1114 hX12
                      go_wp2_with (at_builtin; refine wpList_append_sl rfl _ _ rfl w7.heap.size ?dE _ q rfl (hown14.alloc _) _ [(dx, dy, dz)] rfl (.inr ⟨_, 1, rfl, row_one w14 dx dy dz⟩) ?dC ?_)
                      case dC => simp; omega
                      case dE => simp; omega
                      intro v15 w15 hown15 hB15
                      have hX15 : Below w7.heap.size w7 w15 := (hX714.alloc hsz14 (.cells #[.int .i64 dx, .int .i64 dy, .int .i64 dz] 24)).trans hB15
                      have HR : RowKit.Hid (m ≤ n ∧ q.length + m = n ∧ pathF nearL (stC l (bx, by_, bz)) n (ax, ay, az) = q ++ pathF nearL (stC l (bx, by_, bz)) m (dx, dy, dz)) := Lib.hid ⟨by omega, by have := HQ.out.2; have := HPM.out; omega, by rw [HPA.out, HPN.out, HQ.out.1, List.append_assoc]; rfl⟩
                      clear hown14 hB15 h0 h1 h2 hX14
                      go_wp2_with fail
                      go_roundw
                      case rel => exact ⟨m, q, (dx, dy, dz), rfl, HR.out.1, HR.out.2.1, HR.out.2.2, HS.out, hown15, hX15⟩
                      case measure => simp [intOf]
                    · have HNX := Lib.hid (hnext hs)
                      have hne : (stV (stC l (bx, by_, bz) (dx, dy, dz)) != (m : Int)) = true := by
                        rw [bne_iff_ne]
                        intro h
                        exact hs ((stV_is _ _).1 h)
                      generalize stV (stC l (bx, by_, bz) (dx, dy, dz)) = sv at hcd hne
                      clear hs hno hnext hd hkd hdl hown11
                      go_wp2_with (first
                        | (go_at_call 22; with_reducible refine q1.mono ?_; rintro e w13 ⟨rfl, hB13⟩; have q2 := qA _ hB13; obtain ⟨g0, g1, g2⟩ := hcq _ hB13)
                        | (go_at_call 22; with_reducible refine q2.mono ?_; rintro e w14 ⟨rfl, hB14⟩; have hX14 := hB13.trans (hB14.mono hB13.size); have cd14 := hcd _ hX14))
                      go_roundw
                      case rel => exact ⟨k + 1, by simp, HNX.out, hX12.trans (hX14.mono hX12.size)⟩
                      case measure => exact HM5.out
                  · have qA := at_out w12 (hlw7.below hX712) (by omega) hdl
                    have HNX := Lib.hid (hnext fun h => hdl (stC_mem hb h))
                    clear hno hnext hd hdl hown11
                    go_wp2_with (go_at_call 22; refine qA.mono ?_; rintro e w13 ⟨rfl, hB13⟩)
                    go_roundw
                    case rel => exact ⟨k + 1, by simp, HNX.out, hX12.trans (hB13.mono hX12.size)⟩
                    case measure => exact HM5.out
end Go.Proofs
