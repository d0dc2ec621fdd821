import Derived.Test.YtpickbchpnbffaaGreatG2s
import Derived.Test.YtpickbchpnbffaaGreatBitN
import Derived.Test.YtpickbchpnbffaaGreatBitS
import Derived.Test.YtpickbchpnbffaaGreatHeldF
import Derived.DeepKeys3
section
/- TopTrayMeets: the law's walk, where its example holds. -/
namespace Go.Proofs
open Go.RowKit
set_option maxHeartbeats 16000000
set_option maxRecDepth 1000000
/-- The example of the law holds, from any later world. -/
def ClosedP (w : World) : Prop := ∀ W, Below w.heap.size w W → Calls Tryz.prog 6 #[] W fun e w' => e = .returned (.bool true) ∧ Below W.heap.size W w'
/-- Two sets of cells within 1000 are at most 6000 apart. -/
theorem meet_dist {a b : List Cel} {d : Int} (ha : ∀ c ∈ a, Near c 1000) (hb : ∀ c ∈ b, Near c 1000) (h : Least a b d) : 0 ≤ d ∧ d ≤ 6000 := by
  obtain ⟨⟨x, hx, y, hy, rfl⟩, -⟩ := h
  have h1 := ha x hx
  have h2 := hb y hy
  unfold Near at h1 h2
  unfold distI
  omega
theorem meets_all (u l p : List Cel) (vu vl vp : Value) (w : World) (hr : ClosedP w) (hu : St w vu u) (hl : St w vl l) (hp : St w vp p) :
    Calls Tryz.prog 3 #[.agg #[vu, vl, vp]] w fun e w' => e = .returned (.bool true) ∧ Below w.heap.size w w' := by
  have hml : ∀ {v : Value} {m : List Cel}, St w v m → m.length ≤ maxLen := fun h => by
    obtain ⟨_, A, cap, _, h2, h3⟩ := h
    unfold maxLen
    omega
  have lu := hml hu
  have ll := hml hl
  have lp := hml hp
  obtain ⟨su, U, uc, rfl, hu1, hu2⟩ := hu
  obtain ⟨sl, A, ac, rfl, hl1, hl2⟩ := hl
  obtain ⟨sp, P, pc, rfl, hp1, hp2⟩ := hp
  obtain ⟨W0, hW⟩ : ∃ W0, W0 = w.alloc (.cells #[.slice U u.length uc, .slice A l.length ac, .slice P p.length pc] 24) := ⟨_, rfl⟩
  have hB0 : Below w.heap.size w W0 := by subst hW; exact (Below.refl _ _).alloc (Nat.le_refl _) _
  have hrow : W0.heap[w.heap.size]? = some (.cells #[.slice U u.length uc, .slice A l.length ac, .slice P p.length pc] 24 (0, 0)) := by subst hW; exact heap_alloc_new w _
  have hlt : w.heap.size < W0.heap.size := (Array.getElem?_eq_some_iff.1 hrow).1
  have hbit : ∀ V, Below W0.heap.size W0 V → BitS V (.slice U u.length uc) (.slice A l.length ac) (.slice P p.length pc) u l p := fun V h => ⟨su.below (hB0.trans (h.mono hB0.size)), sl.below (hB0.trans (h.mono hB0.size)), sp.below (hB0.trans (h.mono hB0.size))⟩
  have kk : ∀ V, Below W0.heap.size W0 V → V.cell? ⟨w.heap.size, 0, none⟩ = some (.slice U u.length uc) ∧ V.cell? ⟨w.heap.size, 1, none⟩ = some (.slice A l.length ac) ∧ V.cell? ⟨w.heap.size, 2, none⟩ = some (.slice P p.length pc) := fun V h => three_cellsB ((h.block _ hlt).trans hrow)
  have kR := fun V (h : Below W0.heap.size W0 V) => hr V (hB0.trans (h.mono hB0.size))
  have qF := fewBite_ok u l p _ _ _ W0 (hbit _ (Below.refl _ _)) lu ll lp
  clear su sl sp hr hml
  obtain ⟨d0, d1, d2⟩ := kk _ (Below.refl _ _)
  go_enter Tryz.func3, Tryz.ntmps3
  go_wp2_with fail
  rw [← hW]
  clear hW
  refine qF.mono ?_
  rintro e w1 hE
  obtain ⟨r, rfl, hF, hX1⟩ := hE
  clear qF
  obtain ⟨d0, d1, d2⟩ := kk _ hX1
  cases r with
  | false =>
    clear hF
    go_wp2_with (go_at_call 6; refine (kR _ hX1).mono ?_; rintro e w4 ⟨rfl, hY⟩)
    go_ret
    exact ⟨rfl, (hB0.trans (hX1.mono hB0.size)).trans (hY.mono (hB0.trans (hX1.mono hB0.size)).size)⟩
  | true =>
    obtain ⟨ok, u40, l40⟩ := hF rfl
    clear hF lu ll lp
    obtain ⟨lu, nu, -⟩ := chkI_zero.1 ok.cu
    obtain ⟨ll, nl, ul⟩ := chkI_zero.1 ok.cl
    have lp := ok.path.len
    have nu0 := ok.nu
    have nl0 := ok.nl
    have cu := ok.cu
    have cl := ok.cl
    have kT := fun V (h : Below W0.heap.size W0 V) => trayBite_ok u l p _ _ _ V (hbit V h).su (hbit V h).sl (hbit V h).sp ok.nu ok.nl ok.path.pos (by omega) (by omega) (by omega)
    unfold TrayE at kT
    have kS := fun V va vb vc (ha : Sl V va u) (hb : Sl V vb l) (hc : Sl V vc p) => bitStates_ok u l p va vb vc V ⟨ha, hb, hc⟩ ok
    have kP := fun V va vb vc k s (ha : Sl V va u) (hb : Sl V vb l) (hc : Sl V vc p) (hk : p[k]? = some s) => bitPlaceAt_ok u l p va vb vc k s V ⟨ha, hb, hc⟩ ok hk
    have kH := fun V va vb vc k s (ha : Sl V va u) (hb : Sl V vb l) (hc : Sl V vc p) (hk : p[k]? = some s) => bitHits_ok u l p va vb vc k s V ⟨ha, hb, hc⟩ ok hk
    have kC := fun V va vb vc k s (ha : Sl V va u) (hb : Sl V vb l) (hc : Sl V vc p) (hk : p[k]? = some s) => bitContacts_ok u l p va vb vc k s V ⟨ha, hb, hc⟩ ok hk
    unfold bitV at kS kP kH kC
    have hnp := ok.path.near
    have hth := ok.there
    have OK := Lib.hid ok
    clear ok
    go_wp2_with fail
    refine (kT _ hX1).mono ?_
    rintro e w2 ⟨va, vb, vc, rfl, oa, ob, oc, hB2⟩
    have q := kS w2 va vb vc oa.sl ob.sl oc.sl
    have hX2 := hX1.trans (hB2.mono hX1.size)
    clear oa ob oc hB2
    go_wp2_with fail
    refine q.mono ?_
    rintro e w3 ⟨Bs, rfl, -, hRow, hB3⟩
    have hX3 := hX2.trans (hB3.mono hX2.size)
    have hlp0 : (p.length : Int) = p.length := rfl
    obtain ⟨d0, d1, d2⟩ := kk _ hX3
    clear q hB3 kS hX1 hX2 hlp0
    go_wp2
    go_loopw [46] (fun i wr => ∃ k : Nat, k ≤ p.length ∧ i = .int .i64 k ∧ RowX wr 3 Bs (p.map (stateB u l)) ∧ Below W0.heap.size W0 wr) (fun i _ => p.length - (intOf i).toNat)
    case atStart => exact ⟨0, Nat.zero_le _, rfl, hRow, hX3⟩
    case round =>
      clear hRow hX3 d0 d1 d2
      obtain ⟨k, hk, rfl, hRow, hX⟩ := hrel
      rename World => w4
      obtain ⟨d0, d1, d2⟩ := kk _ hX
      rcases Nat.lt_or_eq_of_le hk with hkn | rfl
      · obtain ⟨b, o, x, y, z, rfl, -, hb, hc, r0, r1, r2⟩ := (hbit _ hX).sp.cells hkn
        have hm := List.mem_of_getElem? hc
        have hs := hnp _ hm
        have ht := hth _ hm
        have hst : (p.map (stateB u l))[k]? = some (stateB u l (x, y, z)) := by rw [List.getElem?_map, hc]; rfl
        obtain ⟨W4, hW4⟩ : ∃ W4, W4 = w4.alloc (.cells #[.int .i64 x, .int .i64 y, .int .i64 z] 34) := ⟨_, rfl⟩
        have hb4 : Below w4.heap.size w4 W4 := by rw [hW4]; exact below_alloc _ _
        have hc4 : W4.heap[w4.heap.size]? = some (.cells #[.int .i64 x, .int .i64 y, .int .i64 z] 34 (0, 0)) := by rw [hW4]; exact heap_alloc_new w4 _
        have hlt4 : w4.heap.size < W4.heap.size := (Array.getElem?_eq_some_iff.1 hc4).1
        have hX4 := hX.trans (hb4.mono hX.size)
        have hRow4 := hRow.below hb4
        have hz4 := hX4.size
        have hW : ∀ V, Below W4.heap.size W4 V → Below W0.heap.size W0 V := fun V h => hX4.trans (h.mono hz4)
        have kf : ∀ V, Below W4.heap.size W4 V → (V.cell? ⟨w.heap.size, 0, none⟩ = some (.slice U u.length uc) ∧ V.cell? ⟨w.heap.size, 1, none⟩ = some (.slice A l.length ac) ∧ V.cell? ⟨w.heap.size, 2, none⟩ = some (.slice (some ⟨b, o, none⟩) p.length pc)) ∧ V.cell? ⟨w4.heap.size, 0, none⟩ = some (.int .i64 x) ∧ V.cell? ⟨w4.heap.size, 1, none⟩ = some (.int .i64 y) ∧ V.cell? ⟨w4.heap.size, 2, none⟩ = some (.int .i64 z) := fun V h => ⟨kk V (hW V h), three_cellsB ((h.block _ hlt4).trans hc4)⟩
        have kT4 := fun V h => kT V (hW V h)
        have kP4 := fun V va vb vc ha hb' hc' => kP V va vb vc k (x, y, z) ha hb' hc' hc
        have kH4 := fun V va vb vc ha hb' hc' => kH V va vb vc k (x, y, z) ha hb' hc' hc
        have kC4 := fun V va vb vc ha hb' hc' => kC V va vb vc k (x, y, z) ha hb' hc' hc
        unfold ContE at kC4
        have bU := fun V h => (hbit V (hW V h)).su
        have bL := fun V h => (hbit V (hW V h)).sl
        have HB := Lib.hid hb4
        have wk := wrapS (n := (k : Int) + 1) (by omega)
        have ki0 : (0 : Int) ≤ k := by omega
        have ki1 : (k : Int) < p.length := by omega
        have hlw : w.heap.size < w4.heap.size := Nat.lt_of_lt_of_le hlt hX.size
        have hnw : w.heap.size ≠ w4.heap.size := Nat.ne_of_lt hlw
        clear hm hc hRow hb4 hc4 hX kP kH kC kT hbit kk
        go_wp2_with fail
        rw [← hW4]
        clear hW4 r0 r1 r2 d0 d1 d2
        have hX := Below.refl W4.heap.size W4
        refine (kT4 _ hX).mono ?_
        rintro e w5 ⟨va, vb, vc, rfl, oa, ob, oc, hB⟩
        have q := kP4 w5 va vb vc oa.sl ob.sl oc.sl
        have hX := hX.trans (hB.mono hX.size)
        obtain ⟨⟨d0, d1, d2⟩, e0, e1, e2⟩ := kf _ hX
        clear oa ob oc hB
        go_wp2_with fail
        refine q.mono ?_
        rintro e w6 ⟨B6, rfl, -, hF6, hB⟩
        have hS6 : St w6 (.slice (some ⟨B6, 0, none⟩) l.length l.length) (l.map (shiftC (x, y, z))) := St.of_filled hF6 (List.length_map _) ll
        have hX := hX.trans (hB.mono hX.size)
        obtain ⟨⟨d0, d1, d2⟩, e0, e1, e2⟩ := kf _ hX
        clear q hB hF6
        go_wp2_with fail
        have c6 : chkI (l.map (shiftC (x, y, z))) = 0 := chkI_zero.2 ⟨by rw [List.length_map]; exact ll, fun c h => by
          obtain ⟨d, hd, rfl⟩ := List.mem_map.1 h
          exact ht d hd, up_shift _ ul⟩
        refine (shiftM (bL _ hX) cl hs ht).mono ?_
        rintro e w7 ⟨A7, n7, rfl, hS7, hB⟩
        simp only [List.length_map] at hS7 ⊢
        have hS6 := hS6.below hB
        have hX := hX.trans (hB.mono hX.size)
        obtain ⟨⟨d0, d1, d2⟩, e0, e1, e2⟩ := kf _ hX
        clear hB
        go_wp2_with fail
        refine (kT4 _ hX).mono ?_
        rintro e w8 ⟨va, vb, vc, rfl, oa, ob, oc, hB⟩
        have q := kH4 w8 va vb vc oa.sl ob.sl oc.sl
        have hS6 := hS6.below hB
        have hS7 := hS7.below hB
        have hX := hX.trans (hB.mono hX.size)
        obtain ⟨⟨d0, d1, d2⟩, e0, e1, e2⟩ := kf _ hX
        clear oa ob oc hB
        go_wp2_with fail
        refine q.mono ?_
        rintro e w9 ⟨A9, n9, rfl, hO9, hB⟩
        have hS9 := hO9.sl
        have hS6 := hS6.below hB
        have hS7 := hS7.below hB
        have hX := hX.trans (hB.mono hX.size)
        obtain ⟨⟨d0, d1, d2⟩, e0, e1, e2⟩ := kf _ hX
        clear q hB hO9
        go_wp2_with fail
        refine (cutM (hit_cut u l (x, y, z)).symm (bU _ hX) hS7 cu c6).mono ?_
        rintro e w10 ⟨A10, n10, rfl, hS10, hB⟩
        have hS9 := hS9.below hB
        have hS6 := hS6.below hB
        have hS7 := hS7.below hB
        have hX := hX.trans (hB.mono hX.size)
        obtain ⟨⟨d0, d1, d2⟩, e0, e1, e2⟩ := kf _ hX
        clear hB
        go_wp2_with fail
        refine (apartM (bU _ hX) hS7 cu c6 nu0 (by rw [List.length_map]; exact nl0)).mono ?_
        rintro e w11 ⟨d, rfl, hL, hB⟩
        have hS10 := hS10.below hB
        have hS9 := hS9.below hB
        have hS6 := hS6.below hB
        have hS7 := hS7.below hB
        have hX := hX.trans (hB.mono hX.size)
        obtain ⟨⟨d0, d1, d2⟩, e0, e1, e2⟩ := kf _ hX
        clear hB
        go_wp2_with fail -- WS1
        refine (sameM rfl hS6.1 hS7.1 (by rw [List.length_map]; exact ll)).mono ?_
        rintro e w12 ⟨rfl, hB⟩
        have hS10 := hS10.below hB
        have hS9 := hS9.below hB
        have hS7 := hS7.below hB
        have hX := hX.trans (hB.mono hX.size)
        obtain ⟨⟨d0, d1, d2⟩, e0, e1, e2⟩ := kf _ hX
        clear hB hS6
        go_wp2_with fail -- WS2
        refine (sameM rfl hS9 hS10.1 (Nat.le_trans (List.length_filter_le _ _) lu)).mono ?_
        rintro e w13 ⟨rfl, hB⟩
        have hS7 := hS7.below hB
        have hX := hX.trans (hB.mono hX.size)
        obtain ⟨⟨d0, d1, d2⟩, e0, e1, e2⟩ := kf _ hX
        clear hB hS9 hS10
        have c0 : w13.cell? ⟨Bs, k, none⟩ = some (.int .i64 (stateB u l (x, y, z))) := (hRow4.below hX).cell hst
        rw [state_dist hL] at c0
        have hd := meet_dist nu (fun c h => (chkI_zero.1 c6).2.1 c h) hL
        have w2d := wrapS (n := 2 - d) (by omega)
        go_wp2_with fail -- WS3
        refine (kT4 _ hX).mono ?_
        rintro e w14 ⟨va, vb, vc, rfl, oa, ob, oc, hB⟩
        have q := kC4 w14 va vb vc oa.sl ob.sl oc.sl
        have hS7 := hS7.below hB
        have hX := hX.trans (hB.mono hX.size)
        obtain ⟨⟨d0, d1, d2⟩, e0, e1, e2⟩ := kf _ hX
        clear oa ob oc hB
        go_wp2_with fail -- WT1
        refine q.mono ?_
        rintro e w15 hE
        clear q
        rcases hE with ⟨hn, rfl, hB⟩ | ⟨hn, A15, n15, rfl, hO, hB⟩
        · obtain rfl : d = 0 := Decidable.byContradiction fun h => hn ((hit_nil hL).2 h)
          have hX := hX.trans (hB.mono hX.size)
          obtain ⟨⟨d0, d1, d2⟩, e0, e1, e2⟩ := kf _ hX
          clear hB
          go_wp2_with fail -- WT2
          exact ⟨⟨k + 1, hkn, rfl, hRow4.below hX, hW _ hX⟩, by simp [intOf]; omega⟩
        · have hd0 : d ≠ 0 := (hit_nil hL).1 hn
          have hO15 := hO.sl
          have hS7 := hS7.below hB
          have hX := hX.trans (hB.mono hX.size)
          obtain ⟨⟨d0, d1, d2⟩, e0, e1, e2⟩ := kf _ hX
          clear hB hO
          go_wp2_with fail -- WT3
          refine (grow_okT hS7.1 c6 (by rw [List.length_map]; exact l40)).mono ?_
          rintro e w16 (⟨r, hr, rfl, hB⟩ | ⟨X, cX, hmX, A16, n16, rfl, hS16, hB⟩)
          · have hX := hX.trans (hB.mono hX.size)
            obtain ⟨⟨d0, d1, d2⟩, e0, e1, e2⟩ := kf _ hX
            clear hB
            go_wp2_with fail -- WT4
            exact ⟨⟨k + 1, hkn, rfl, hRow4.below hX, hW _ hX⟩, by simp [intOf]; omega⟩
          · have hO15 := hO15.below hB
            have hX := hX.trans (hB.mono hX.size)
            obtain ⟨⟨d0, d1, d2⟩, e0, e1, e2⟩ := kf _ hX
            clear hB
            go_wp2_with fail -- WT5
            refine (cutM (con_cut hn hmX).symm (bU _ hX) hS16 cu cX).mono ?_
            rintro e w17 ⟨A17, n17, rfl, hS17, hB⟩
            have hO15 := hO15.below hB
            have hX := hX.trans (hB.mono hX.size)
            obtain ⟨⟨d0, d1, d2⟩, e0, e1, e2⟩ := kf _ hX
            clear hB
            go_wp2_with fail -- WT6
            refine (sameM rfl hO15 hS17.1 (Nat.le_trans (List.length_filter_le _ _) lu)).mono ?_
            rintro e w18 ⟨rfl, hB⟩
            have hX := hX.trans (hB.mono hX.size)
            obtain ⟨⟨d0, d1, d2⟩, e0, e1, e2⟩ := kf _ hX
            clear hB
            go_wp2_with fail -- WT7
            exact ⟨⟨k + 1, hkn, rfl, hRow4.below hX, hW _ hX⟩, by simp [intOf]; omega⟩
      · go_wp2_with (go_at_call 6; refine (kR _ hX).mono ?_; rintro e w5 ⟨rfl, hY⟩)
        go_ret
        exact ⟨rfl, (hB0.trans (hX.mono hB0.size)).trans (hY.mono (hB0.trans (hX.mono hB0.size)).size)⟩
end Go.Proofs
end

section
/- The fixed example of chapter 4: columns of cells, and the map of heights with one column. -/
namespace Go.Proofs
open Go.RowKit Go.MapKept
set_option maxHeartbeats 16000000
set_option maxRecDepth 1000000
def pairV (x y : Int) : Value := .agg #[.int .i64 x, .int .i64 y]
theorem bitColumn_ok (x y z : Int) (w : World) :
    Calls Tryz.prog 82 #[.agg #[.int .i64 x, .int .i64 y, .int .i64 z]] w fun e w' => e = .returned (pairV x y) ∧ Below w.heap.size w w' := by
  have hB : Below w.heap.size w (w.alloc (.cells #[.int .i64 x, .int .i64 y, .int .i64 z] 34)) := (Below.refl _ _).alloc (Nat.le_refl _) _
  unfold pairV
  go_enter Tryz.func82, Tryz.ntmps82
  go_wp2
  refine bodyPost_ret (results_cell_row rfl _ _ _ 120 #[.int .i64 x, .int .i64 y] (0, 0) _ rfl ?_ Tryz.underlying120 rfl (by kernel_rfl)) rfl ?_
  · have := heap_alloc_new (w.alloc (.cells #[.int .i64 x, .int .i64 y, .int .i64 z] 34)) (.cells #[.int .i64 x, .int .i64 y] 120)
    have e : (w.alloc (.cells #[.int .i64 x, .int .i64 y, .int .i64 z] 34)).heap.size = w.heap.size + 1 := by simp
    rw [e] at this
    exact this
  · exact ⟨rfl, hB.alloc (by simp) _⟩
theorem check_pair (em : Bool) (w : World) : (Instr.checkKey em 10000 120 (pairV 0 0)).run Tryz.prog w = .ok () w := by
  obtain ⟨la, hla⟩ : ∃ la, Tryz.prog.keyLits 100 120 (pairV 0 0).cells.toList = some la := Option.isSome_iff_exists.1 (by kernel_rfl)
  exact run_checkKey_deep em 9998 2 120 (by kernel_rfl) w 100 _ la (by kernel_rfl) hla
theorem equal_pair (w : World) : (Op.equal 120 (pairV 0 0) (pairV 0 0)).run Tryz.prog w = .ok true w := by
  obtain ⟨l, hl⟩ : ∃ l, keyOf Tryz.prog 120 (pairV 0 0) = some l := Option.isSome_iff_exists.1 (by kernel_rfl)
  obtain ⟨r, hr, h⟩ := run_equal_deep w (m := 2) (by decide) (k := 120) (by kernel_rfl) (by kernel_rfl) hl hl
  rw [hr, h.2 rfl]
/-- An empty map has nothing at a column. -/
theorem lookup_none {w : World} {b clock : Nat} (h : w.heap[b]? = some (.map #[] clock)) :
    (Instr.lookup 118 (.map (some b)) (pairV 0 0) false).run Tryz.prog w = .ok (.slice none 0 0) w := by
  have hz : (zeroValue 27).run Tryz.prog w = .ok (.slice none 0 0) w := by go_simp
  have hf : (Instr.findKey 120 (pairV 0 0) []).run Tryz.prog w = .ok none w := by rw [run_findKey_eq w (by rw [Tryz.underlying120])]; simp [Instr.findAsking]
  simp [Instr.lookup, run_underlying Tryz.underlying118, MapKept.run_getObj_map h, check_pair, hf, hz, Result.andThen]
/-- A map with one column. -/
theorem lookup_one {w : World} {b clock born : Nat} {v : Value} (h : w.heap[b]? = some (.map #[{ key := pairV 0 0, val := v, born := born }] clock)) :
    (Instr.lookup 118 (.map (some b)) (pairV 0 0) false).run Tryz.prog w = .ok v w := by
  have hf : (Instr.findKey 120 (pairV 0 0) [{ key := pairV 0 0, val := v, born := born }]).run Tryz.prog w = .ok (some (0, v)) w := by rw [run_findKey_eq w (by rw [Tryz.underlying120])]; simp [Instr.findAsking, equal_pair]
  simp [Instr.lookup, run_underlying Tryz.underlying118, MapKept.run_getObj_map h, check_pair, hf, Result.andThen]
theorem update_one {w : World} {b clock : Nat} (h : w.heap[b]? = some (.map #[] clock)) (v : Value) :
    ∃ w', (Instr.mapUpdate 118 (.map (some b)) (pairV 0 0) v).run Tryz.prog w = .ok () w' ∧ w'.heap[b]? = some (.map #[{ key := pairV 0 0, val := v, born := clock }] (clock + 1)) ∧ w.grownBy w' (some b) := by
  have hf : (Instr.findKey 120 (pairV 0 0) []).run Tryz.prog w = .ok none w := by rw [run_findKey_eq w (by rw [Tryz.underlying120])]; simp [Instr.findAsking]
  refine ⟨_, by simp [Instr.mapUpdate, run_underlying Tryz.underlying118, MapKept.run_getObj_map h, check_pair, hf, Result.andThen, MapKept.run_setObj_map _ h]; rfl, ?_, ?_⟩
  · exact (heap_set h).1
  · exact grown_setBlock (.inl rfl) b _
end Go.Proofs
end
