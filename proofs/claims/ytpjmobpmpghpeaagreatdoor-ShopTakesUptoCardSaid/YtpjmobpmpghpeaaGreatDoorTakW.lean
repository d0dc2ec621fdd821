import Derived.Test.YtpjmobpmpghpeaaGreatDoorTakW0
import Derived.Test.YtpjmobpmpghpeaaGreatDoorAwkShop
import Derived.Deep.Cut
import Derived.Deep.CutRange
/- ShopTakes: the walk. -/
namespace Go.Proofs
open Go.AM Go.RowKit Go.MapKept
set_option maxHeartbeats 16000000
set_option maxRecDepth 1000000
theorem takes_in (v : Value) (l : List BatT) (kind : ByteArray) (g0 day : Int) (w : World) (hgk : GOk gN gRows w) (hl : SlF encB w v l) (hn : l.length ≤ 1048576) :
    Calls Tryz.prog 5 #[v, .agg #[.string kind, .int .i64 g0, .int .i64 day]] w fun e w' => e = .returned (.bool true) ∧ Below w.heap.size w w' := by
  obtain ⟨n, hgx⟩ := batX_ex l
  obtain ⟨A, cap, rfl⟩ := hl.form
  obtain ⟨W0, hW⟩ : ∃ W0, W0 = w.alloc (.cells #[.string kind, .int .i64 g0, .int .i64 day] 24) := ⟨_, rfl⟩
  have rw0 : RowK W0 24 w.heap.size [.string kind, .int .i64 g0, .int .i64 day] := by subst hW; exact heap_alloc_new w _
  have hB0 : Below w.heap.size w W0 := by subst hW; exact (Below.refl _ _).alloc (Nat.le_refl _) _
  have hltw : w.heap.size < W0.heap.size := rw0.lt
  have hlt0 := rw0.lt
  have kS := lawStock_ok _ l W0 (hl.below hB0) hn
  go_enter Tryz.func5, Tryz.ntmps5
  go_wp2_with fail
  rw [← hW]
  clear hW
  refine kS.mono ?_
  rintro e w1 ⟨⟨u, rfl, hu⟩, hB1⟩
  clear kS
  obtain ⟨Au, cu, rfl⟩ := (hu.sl encB_len).form
  have hus := hu.sl encB_len
  have hB01 := hB0.trans (hB1.mono hB0.size)
  have hBw : ∀ V, Below w1.heap.size w1 V → Below w.heap.size w V := fun V h => hB01.trans (h.mono hB01.size)
  have ksl : ∀ V, Below w1.heap.size w1 V → SlF encB V (.slice A l.length cap) l := fun V h => hl.below (hBw V h)
  have ksu : ∀ V, Below w1.heap.size w1 V → SlF encB V (.slice Au l.length cu) l := fun V h => hus.below h
  have kk : ∀ V, Below w1.heap.size w1 V → V.cell? ⟨w.heap.size, 0, none⟩ = some (.string kind) ∧ V.cell? ⟨w.heap.size, 1, none⟩ = some (.int .i64 g0) ∧ V.cell? ⟨w.heap.size, 2, none⟩ = some (.int .i64 day) := fun V h => by
    have h2 := hB1.trans (h.mono hB1.size)
    exact ⟨(rw0.below h2).cell (by rfl), (rw0.below h2).cell (by rfl), (rw0.below h2).cell (by rfl)⟩
  have kSh := fun V (h : SlF encB V (.slice Au l.length cu) l) => refShortB_ok _ l 10 V h
  have kCk := fun V (h : SlF encB V (.slice Au l.length cu) l) => refBatN_ok _ l n V h hgx
  have kNm := fun V => refNameX_ok kind V
  have kGr := fun V => checkRange_ok g0 0 999999999 V
  have kDy := fun V => checkRange_ok day 0 99999 V
  have HN : RowKit.Hid (nameB kind = true → nameE kind = 0) := Lib.hid fun h => by unfold nameE; rw [if_pos h]
  have hwg := withinI_cases2 g0 0 999999999
  have hwd := withinI_cases2 day 0 99999
  have HWG : RowKit.Hid (∀ e : Int, e = withinI g0 0 999999999 → e = withinI g0 0 999999999) := Lib.hid fun _ h => h
  obtain ⟨eg, heg⟩ : ∃ eg, eg = withinI g0 0 999999999 := ⟨_, rfl⟩
  obtain ⟨ed, hed⟩ : ∃ ed, ed = withinI day 0 99999 := ⟨_, rfl⟩
  rw [← heg] at kGr hwg
  rw [← hed] at kDy hwd
  have HEG := Lib.hid heg
  have HED := Lib.hid hed
  have HGX := Lib.hid hgx
  clear heg hed hgx HWG hu hB0 rw0 hlt0
  generalize nameB kind = nb at kNm HN
  have hX := (Below.refl w1.heap.size w1).drew
  go_wp2_with fail
  refine wp_region_held_drew (S := fun V => V.cell? ⟨w.heap.size, 0, none⟩ = some (.string kind) ∧ V.cell? ⟨w.heap.size, 1, none⟩ = some (.int .i64 g0) ∧ V.cell? ⟨w.heap.size, 2, none⟩ = some (.int .i64 day)) (by kernel_rfl) (kk _ hX) (fun hHeld => ?_)
  refine held_yes 0 (some 21) (.slice Au l.length cu) rfl rfl (by kernel_rfl) (by kernel_rfl) (by kernel_rfl) (fun _ _ _ h => h) rfl (fun w' hS => by obtain ⟨s0, s1, s2⟩ := hS; go_simp) hHeld ?_
  try simp only [Act.put, List.setIfInBounds_toArray, List.set_cons_zero, List.set_cons_succ]
  refine wpAnyH_ready (rs := [1]) (by kernel_rfl) (by simp) ?_
  refine AllReadyH.cons rfl (fun K hK => ?_) AllReadyH.nil
  go_simp
  refine (kSh _ (ksu _ hX)).mono ?_
  rintro e1 V1 ⟨⟨rs, rfl, hS⟩, hB⟩
  replace hX := hX.trans (hB.mono hX.size)
  go_wp2_with fail
  refine hK.out _ _ (kk _ hX) (fun hHeld => ?_)
  clear hK K hB
  try simp only [Act.put, List.setIfInBounds_toArray, List.set_cons_zero, List.set_cons_succ]
  cases rs with
  | false =>
    refine held_yes 2 (some 23) (.bool true) rfl rfl (by kernel_rfl) (by kernel_rfl) (by kernel_rfl) (fun _ _ _ h => h) rfl (fun w' hS => by obtain ⟨s0, s1, s2⟩ := hS; go_simp) hHeld ?_
    try simp only [Act.put, List.setIfInBounds_toArray, List.set_cons_zero, List.set_cons_succ]
    refine held_yes 3 (some 24) (.bool true) rfl rfl (by kernel_rfl) (by kernel_rfl) (by kernel_rfl) (fun _ _ _ h => h) rfl (fun w' hS => by obtain ⟨s0, s1, s2⟩ := hS; go_simp) hHeld ?_
    try simp only [Act.put, List.setIfInBounds_toArray, List.set_cons_zero, List.set_cons_succ]
    refine held_no 4 (some 25) rfl rfl (by kernel_rfl) (by kernel_rfl) (by kernel_rfl) (fun _ _ _ h => h) rfl hHeld ?_
    try simp only [Act.put, List.setIfInBounds_toArray, List.set_cons_zero, List.set_cons_succ]
    refine held_no 5 (some 26) rfl rfl (by kernel_rfl) (by kernel_rfl) (by kernel_rfl) (fun _ _ _ h => h) rfl hHeld ?_
    try simp only [Act.put, List.setIfInBounds_toArray, List.set_cons_zero, List.set_cons_succ]
    refine held_no 6 (some 27) rfl rfl (by kernel_rfl) (by kernel_rfl) (by kernel_rfl) (fun _ _ _ h => h) rfl hHeld ?_
    try simp only [Act.put, List.setIfInBounds_toArray, List.set_cons_zero, List.set_cons_succ]
    refine held_yes 7 (some 28) (.bool true) rfl rfl (by kernel_rfl) (by kernel_rfl) (by kernel_rfl) (fun _ _ _ h => h) rfl (fun w' hS => by obtain ⟨s0, s1, s2⟩ := hS; go_simp) hHeld ?_
    try simp only [Act.put, List.setIfInBounds_toArray, List.set_cons_zero, List.set_cons_succ]
    refine held_yes 8 (some 29) (.bool true) rfl rfl (by kernel_rfl) (by kernel_rfl) (by kernel_rfl) (fun _ _ _ h => h) rfl (fun w' hS => by obtain ⟨s0, s1, s2⟩ := hS; go_simp) hHeld ?_
    try simp only [Act.put, List.setIfInBounds_toArray, List.set_cons_zero, List.set_cons_succ]
    refine held_no 9 (some 30) rfl rfl (by kernel_rfl) (by kernel_rfl) (by kernel_rfl) (fun _ _ _ h => h) rfl hHeld ?_
    try simp only [Act.put, List.setIfInBounds_toArray, List.set_cons_zero, List.set_cons_succ]
    refine held_no 10 (some 31) rfl rfl (by kernel_rfl) (by kernel_rfl) (by kernel_rfl) (fun _ _ _ h => h) rfl hHeld ?_
    try simp only [Act.put, List.setIfInBounds_toArray, List.set_cons_zero, List.set_cons_succ]
    refine held_no 11 (some 32) rfl rfl (by kernel_rfl) (by kernel_rfl) (by kernel_rfl) (fun _ _ _ h => h) rfl hHeld ?_
    try simp only [Act.put, List.setIfInBounds_toArray, List.set_cons_zero, List.set_cons_succ]
    refine held_yes 12 (some 33) (.bool true) rfl rfl (by kernel_rfl) (by kernel_rfl) (by kernel_rfl) (fun _ _ _ h => h) rfl (fun w' hS => by obtain ⟨s0, s1, s2⟩ := hS; go_simp) hHeld ?_
    try simp only [Act.put, List.setIfInBounds_toArray, List.set_cons_zero, List.set_cons_succ]
    refine held_yes 13 (some 34) (.bool true) rfl rfl (by kernel_rfl) (by kernel_rfl) (by kernel_rfl) (fun _ _ _ h => h) rfl (fun w' hS => by obtain ⟨s0, s1, s2⟩ := hS; go_simp) hHeld ?_
    try simp only [Act.put, List.setIfInBounds_toArray, List.set_cons_zero, List.set_cons_succ]
    refine held_no 14 (some 35) rfl rfl (by kernel_rfl) (by kernel_rfl) (by kernel_rfl) (fun _ _ _ h => h) rfl hHeld ?_
    try simp only [Act.put, List.setIfInBounds_toArray, List.set_cons_zero, List.set_cons_succ]
    refine held_no 15 (some 36) rfl rfl (by kernel_rfl) (by kernel_rfl) (by kernel_rfl) (fun _ _ _ h => h) rfl hHeld ?_
    try simp only [Act.put, List.setIfInBounds_toArray, List.set_cons_zero, List.set_cons_succ]
    refine held_no 16 (some 37) rfl rfl (by kernel_rfl) (by kernel_rfl) (by kernel_rfl) (fun _ _ _ h => h) rfl hHeld ?_
    try simp only [Act.put, List.setIfInBounds_toArray, List.set_cons_zero, List.set_cons_succ]
    refine held_no 17 (some 38) rfl rfl (by kernel_rfl) (by kernel_rfl) (by kernel_rfl) (fun _ _ _ h => h) rfl hHeld ?_
    try simp only [Act.put, List.setIfInBounds_toArray, List.set_cons_zero, List.set_cons_succ]
    refine held_yes 18 (some 39) (.bool true) rfl rfl (by kernel_rfl) (by kernel_rfl) (by kernel_rfl) (fun _ _ _ h => h) rfl (fun w' hS => by obtain ⟨s0, s1, s2⟩ := hS; go_simp) hHeld ?_
    try simp only [Act.put, List.setIfInBounds_toArray, List.set_cons_zero, List.set_cons_succ]
    refine held_yes 19 (some 40) (.bool true) rfl rfl (by kernel_rfl) (by kernel_rfl) (by kernel_rfl) (fun _ _ _ h => h) rfl (fun w' hS => by obtain ⟨s0, s1, s2⟩ := hS; go_simp) hHeld ?_
    try simp only [Act.put, List.setIfInBounds_toArray, List.set_cons_zero, List.set_cons_succ]
    refine held_no 20 (some 41) rfl rfl (by kernel_rfl) (by kernel_rfl) (by kernel_rfl) (fun _ _ _ h => h) rfl hHeld ?_
    try simp only [Act.put, List.setIfInBounds_toArray, List.set_cons_zero, List.set_cons_succ]
    refine held_no 21 (some 42) rfl rfl (by kernel_rfl) (by kernel_rfl) (by kernel_rfl) (fun _ _ _ h => h) rfl hHeld ?_
    try simp only [Act.put, List.setIfInBounds_toArray, List.set_cons_zero, List.set_cons_succ]
    refine held_no 22 (some 43) rfl rfl (by kernel_rfl) (by kernel_rfl) (by kernel_rfl) (fun _ _ _ h => h) rfl hHeld ?_
    try simp only [Act.put, List.setIfInBounds_toArray, List.set_cons_zero, List.set_cons_succ]
    refine held_no 23 (some 44) rfl rfl (by kernel_rfl) (by kernel_rfl) (by kernel_rfl) (fun _ _ _ h => h) rfl hHeld ?_
    try simp only [Act.put, List.setIfInBounds_toArray, List.set_cons_zero, List.set_cons_succ]
    refine held_yes 24 (some 45) (.bool true) rfl rfl (by kernel_rfl) (by kernel_rfl) (by kernel_rfl) (fun _ _ _ h => h) rfl (fun w' hS => by obtain ⟨s0, s1, s2⟩ := hS; go_simp) hHeld ?_
    try simp only [Act.put, List.setIfInBounds_toArray, List.set_cons_zero, List.set_cons_succ]
    refine held_yes 25 (some 46) (.bool true) rfl rfl (by kernel_rfl) (by kernel_rfl) (by kernel_rfl) (fun _ _ _ h => h) rfl (fun w' hS => by obtain ⟨s0, s1, s2⟩ := hS; go_simp) hHeld ?_
    try simp only [Act.put, List.setIfInBounds_toArray, List.set_cons_zero, List.set_cons_succ]
    refine held_no 26 (some 47) rfl rfl (by kernel_rfl) (by kernel_rfl) (by kernel_rfl) (fun _ _ _ h => h) rfl hHeld ?_
    try simp only [Act.put, List.setIfInBounds_toArray, List.set_cons_zero, List.set_cons_succ]
    refine held_no 27 (some 48) rfl rfl (by kernel_rfl) (by kernel_rfl) (by kernel_rfl) (fun _ _ _ h => h) rfl hHeld ?_
    try simp only [Act.put, List.setIfInBounds_toArray, List.set_cons_zero, List.set_cons_succ]
    refine held_no 28 (some 49) rfl rfl (by kernel_rfl) (by kernel_rfl) (by kernel_rfl) (fun _ _ _ h => h) rfl hHeld ?_
    try simp only [Act.put, List.setIfInBounds_toArray, List.set_cons_zero, List.set_cons_succ]
    refine held_no 29 (some 50) rfl rfl (by kernel_rfl) (by kernel_rfl) (by kernel_rfl) (fun _ _ _ h => h) rfl hHeld ?_
    try simp only [Act.put, List.setIfInBounds_toArray, List.set_cons_zero, List.set_cons_succ]
    refine held_no 30 (some 51) rfl rfl (by kernel_rfl) (by kernel_rfl) (by kernel_rfl) (fun _ _ _ h => h) rfl hHeld ?_
    try simp only [Act.put, List.setIfInBounds_toArray, List.set_cons_zero, List.set_cons_succ]
    refine held_no 31 (some 52) rfl rfl (by kernel_rfl) (by kernel_rfl) (by kernel_rfl) (fun _ _ _ h => h) rfl hHeld ?_
    try simp only [Act.put, List.setIfInBounds_toArray, List.set_cons_zero, List.set_cons_succ]
    refine held_no 32 (some 53) rfl rfl (by kernel_rfl) (by kernel_rfl) (by kernel_rfl) (fun _ _ _ h => h) rfl hHeld ?_
    try simp only [Act.put, List.setIfInBounds_toArray, List.set_cons_zero, List.set_cons_succ]
    refine held_no 33 (some 54) rfl rfl (by kernel_rfl) (by kernel_rfl) (by kernel_rfl) (fun _ _ _ h => h) rfl hHeld ?_
    try simp only [Act.put, List.setIfInBounds_toArray, List.set_cons_zero, List.set_cons_succ]
    refine held_yes 34 (some 55) (.bool true) rfl rfl (by kernel_rfl) (by kernel_rfl) (by kernel_rfl) (fun _ _ _ h => h) rfl (fun w' hS => by obtain ⟨s0, s1, s2⟩ := hS; go_simp) hHeld ?_
    try simp only [Act.put, List.setIfInBounds_toArray, List.set_cons_zero, List.set_cons_succ]
    refine wpAnyH_done (by kernel_rfl) ?_ _
    clear hHeld
    have hBo := hBw _ hX
    go_wp2_with (go_at_call 9; refine (awake9_ok _ (hgk.below hBo)).mono ?_; rintro e w9 ⟨rfl, hQ9⟩)
    go_ret
    exact ⟨rfl, hBo.trans (hQ9.mono hBo.size)⟩
  | true =>
  have HSH := Lib.hid (hS rfl)
  clear hS
  obtain ⟨b10, hb10⟩ : ∃ b, decide ((10 : Int) < (l.length : Int)) = b := ⟨_, rfl⟩
  cases b10 with
  | true =>
    refine held_yes 2 (some 23) (.bool false) rfl rfl (by kernel_rfl) (by kernel_rfl) (by kernel_rfl) (fun _ _ _ h => h) rfl (fun w' hS => by obtain ⟨s0, s1, s2⟩ := hS; go_simp) hHeld ?_
    try simp only [Act.put, List.setIfInBounds_toArray, List.set_cons_zero, List.set_cons_succ]
    refine held_yes 3 (some 24) (.bool false) rfl rfl (by kernel_rfl) (by kernel_rfl) (by kernel_rfl) (fun _ _ _ h => h) rfl (fun w' hS => by obtain ⟨s0, s1, s2⟩ := hS; go_simp) hHeld ?_
    try simp only [Act.put, List.setIfInBounds_toArray, List.set_cons_zero, List.set_cons_succ]
    refine held_yes 4 (some 25) (.slice A l.length cap) rfl rfl (by kernel_rfl) (by kernel_rfl) (by kernel_rfl) (fun _ _ _ h => h) rfl (fun w' hS => by obtain ⟨s0, s1, s2⟩ := hS; go_simp) hHeld ?_
    try simp only [Act.put, List.setIfInBounds_toArray, List.set_cons_zero, List.set_cons_succ]
    refine held_yes 5 (some 26) (.int .i64 l.length) rfl rfl (by kernel_rfl) (by kernel_rfl) (by kernel_rfl) (fun _ _ _ h => h) rfl (fun w' hS => by obtain ⟨s0, s1, s2⟩ := hS; go_simp) hHeld ?_
    try simp only [Act.put, List.setIfInBounds_toArray, List.set_cons_zero, List.set_cons_succ]
    refine held_yes 6 (some 27) (.bool true) rfl rfl (by kernel_rfl) (by kernel_rfl) (by kernel_rfl) (fun _ _ _ h => h) rfl (fun w' hS => by obtain ⟨s0, s1, s2⟩ := hS; go_simp) hHeld ?_
    try simp only [Act.put, List.setIfInBounds_toArray, List.set_cons_zero, List.set_cons_succ]
    refine held_yes 7 (some 28) (.bool true) rfl rfl (by kernel_rfl) (by kernel_rfl) (by kernel_rfl) (fun _ _ _ h => h) rfl (fun w' hS => by obtain ⟨s0, s1, s2⟩ := hS; go_simp) hHeld ?_
    try simp only [Act.put, List.setIfInBounds_toArray, List.set_cons_zero, List.set_cons_succ]
    refine held_yes 8 (some 29) (.bool true) rfl rfl (by kernel_rfl) (by kernel_rfl) (by kernel_rfl) (fun _ _ _ h => h) rfl (fun w' hS => by obtain ⟨s0, s1, s2⟩ := hS; go_simp) hHeld ?_
    try simp only [Act.put, List.setIfInBounds_toArray, List.set_cons_zero, List.set_cons_succ]
    refine held_no 9 (some 30) rfl rfl (by kernel_rfl) (by kernel_rfl) (by kernel_rfl) (fun _ _ _ h => h) rfl hHeld ?_
    try simp only [Act.put, List.setIfInBounds_toArray, List.set_cons_zero, List.set_cons_succ]
    refine held_no 10 (some 31) rfl rfl (by kernel_rfl) (by kernel_rfl) (by kernel_rfl) (fun _ _ _ h => h) rfl hHeld ?_
    try simp only [Act.put, List.setIfInBounds_toArray, List.set_cons_zero, List.set_cons_succ]
    refine held_no 11 (some 32) rfl rfl (by kernel_rfl) (by kernel_rfl) (by kernel_rfl) (fun _ _ _ h => h) rfl hHeld ?_
    try simp only [Act.put, List.setIfInBounds_toArray, List.set_cons_zero, List.set_cons_succ]
    refine held_yes 12 (some 33) (.bool true) rfl rfl (by kernel_rfl) (by kernel_rfl) (by kernel_rfl) (fun _ _ _ h => h) rfl (fun w' hS => by obtain ⟨s0, s1, s2⟩ := hS; go_simp) hHeld ?_
    try simp only [Act.put, List.setIfInBounds_toArray, List.set_cons_zero, List.set_cons_succ]
    refine held_yes 13 (some 34) (.bool true) rfl rfl (by kernel_rfl) (by kernel_rfl) (by kernel_rfl) (fun _ _ _ h => h) rfl (fun w' hS => by obtain ⟨s0, s1, s2⟩ := hS; go_simp) hHeld ?_
    try simp only [Act.put, List.setIfInBounds_toArray, List.set_cons_zero, List.set_cons_succ]
    refine held_no 14 (some 35) rfl rfl (by kernel_rfl) (by kernel_rfl) (by kernel_rfl) (fun _ _ _ h => h) rfl hHeld ?_
    try simp only [Act.put, List.setIfInBounds_toArray, List.set_cons_zero, List.set_cons_succ]
    refine held_no 15 (some 36) rfl rfl (by kernel_rfl) (by kernel_rfl) (by kernel_rfl) (fun _ _ _ h => h) rfl hHeld ?_
    try simp only [Act.put, List.setIfInBounds_toArray, List.set_cons_zero, List.set_cons_succ]
    refine held_no 16 (some 37) rfl rfl (by kernel_rfl) (by kernel_rfl) (by kernel_rfl) (fun _ _ _ h => h) rfl hHeld ?_
    try simp only [Act.put, List.setIfInBounds_toArray, List.set_cons_zero, List.set_cons_succ]
    refine held_no 17 (some 38) rfl rfl (by kernel_rfl) (by kernel_rfl) (by kernel_rfl) (fun _ _ _ h => h) rfl hHeld ?_
    try simp only [Act.put, List.setIfInBounds_toArray, List.set_cons_zero, List.set_cons_succ]
    refine held_yes 18 (some 39) (.bool true) rfl rfl (by kernel_rfl) (by kernel_rfl) (by kernel_rfl) (fun _ _ _ h => h) rfl (fun w' hS => by obtain ⟨s0, s1, s2⟩ := hS; go_simp) hHeld ?_
    try simp only [Act.put, List.setIfInBounds_toArray, List.set_cons_zero, List.set_cons_succ]
    refine held_yes 19 (some 40) (.bool true) rfl rfl (by kernel_rfl) (by kernel_rfl) (by kernel_rfl) (fun _ _ _ h => h) rfl (fun w' hS => by obtain ⟨s0, s1, s2⟩ := hS; go_simp) hHeld ?_
    try simp only [Act.put, List.setIfInBounds_toArray, List.set_cons_zero, List.set_cons_succ]
    refine held_no 20 (some 41) rfl rfl (by kernel_rfl) (by kernel_rfl) (by kernel_rfl) (fun _ _ _ h => h) rfl hHeld ?_
    try simp only [Act.put, List.setIfInBounds_toArray, List.set_cons_zero, List.set_cons_succ]
    refine held_no 21 (some 42) rfl rfl (by kernel_rfl) (by kernel_rfl) (by kernel_rfl) (fun _ _ _ h => h) rfl hHeld ?_
    try simp only [Act.put, List.setIfInBounds_toArray, List.set_cons_zero, List.set_cons_succ]
    refine held_no 22 (some 43) rfl rfl (by kernel_rfl) (by kernel_rfl) (by kernel_rfl) (fun _ _ _ h => h) rfl hHeld ?_
    try simp only [Act.put, List.setIfInBounds_toArray, List.set_cons_zero, List.set_cons_succ]
    refine held_no 23 (some 44) rfl rfl (by kernel_rfl) (by kernel_rfl) (by kernel_rfl) (fun _ _ _ h => h) rfl hHeld ?_
    try simp only [Act.put, List.setIfInBounds_toArray, List.set_cons_zero, List.set_cons_succ]
    refine held_yes 24 (some 45) (.bool true) rfl rfl (by kernel_rfl) (by kernel_rfl) (by kernel_rfl) (fun _ _ _ h => h) rfl (fun w' hS => by obtain ⟨s0, s1, s2⟩ := hS; go_simp) hHeld ?_
    try simp only [Act.put, List.setIfInBounds_toArray, List.set_cons_zero, List.set_cons_succ]
    refine held_yes 25 (some 46) (.bool true) rfl rfl (by kernel_rfl) (by kernel_rfl) (by kernel_rfl) (fun _ _ _ h => h) rfl (fun w' hS => by obtain ⟨s0, s1, s2⟩ := hS; go_simp) hHeld ?_
    try simp only [Act.put, List.setIfInBounds_toArray, List.set_cons_zero, List.set_cons_succ]
    refine held_no 26 (some 47) rfl rfl (by kernel_rfl) (by kernel_rfl) (by kernel_rfl) (fun _ _ _ h => h) rfl hHeld ?_
    try simp only [Act.put, List.setIfInBounds_toArray, List.set_cons_zero, List.set_cons_succ]
    refine held_no 27 (some 48) rfl rfl (by kernel_rfl) (by kernel_rfl) (by kernel_rfl) (fun _ _ _ h => h) rfl hHeld ?_
    try simp only [Act.put, List.setIfInBounds_toArray, List.set_cons_zero, List.set_cons_succ]
    refine held_no 28 (some 49) rfl rfl (by kernel_rfl) (by kernel_rfl) (by kernel_rfl) (fun _ _ _ h => h) rfl hHeld ?_
    try simp only [Act.put, List.setIfInBounds_toArray, List.set_cons_zero, List.set_cons_succ]
    refine held_no 29 (some 50) rfl rfl (by kernel_rfl) (by kernel_rfl) (by kernel_rfl) (fun _ _ _ h => h) rfl hHeld ?_
    try simp only [Act.put, List.setIfInBounds_toArray, List.set_cons_zero, List.set_cons_succ]
    refine held_no 30 (some 51) rfl rfl (by kernel_rfl) (by kernel_rfl) (by kernel_rfl) (fun _ _ _ h => h) rfl hHeld ?_
    try simp only [Act.put, List.setIfInBounds_toArray, List.set_cons_zero, List.set_cons_succ]
    refine held_no 31 (some 52) rfl rfl (by kernel_rfl) (by kernel_rfl) (by kernel_rfl) (fun _ _ _ h => h) rfl hHeld ?_
    try simp only [Act.put, List.setIfInBounds_toArray, List.set_cons_zero, List.set_cons_succ]
    refine held_no 32 (some 53) rfl rfl (by kernel_rfl) (by kernel_rfl) (by kernel_rfl) (fun _ _ _ h => h) rfl hHeld ?_
    try simp only [Act.put, List.setIfInBounds_toArray, List.set_cons_zero, List.set_cons_succ]
    refine held_no 33 (some 54) rfl rfl (by kernel_rfl) (by kernel_rfl) (by kernel_rfl) (fun _ _ _ h => h) rfl hHeld ?_
    try simp only [Act.put, List.setIfInBounds_toArray, List.set_cons_zero, List.set_cons_succ]
    refine held_yes 34 (some 55) (.bool true) rfl rfl (by kernel_rfl) (by kernel_rfl) (by kernel_rfl) (fun _ _ _ h => h) rfl (fun w' hS => by obtain ⟨s0, s1, s2⟩ := hS; go_simp) hHeld ?_
    try simp only [Act.put, List.setIfInBounds_toArray, List.set_cons_zero, List.set_cons_succ]
    refine wpAnyH_done (by kernel_rfl) ?_ _
    clear hHeld
    have hBo := hBw _ hX
    go_wp2_with (go_at_call 9; refine (awake9_ok _ (hgk.below hBo)).mono ?_; rintro e w9 ⟨rfl, hQ9⟩)
    go_ret
    exact ⟨rfl, hBo.trans (hQ9.mono hBo.size)⟩
  | false =>
  refine held_yes 2 (some 23) (.bool false) rfl rfl (by kernel_rfl) (by kernel_rfl) (by kernel_rfl) (fun _ _ _ h => h) rfl (fun w' hS => by obtain ⟨s0, s1, s2⟩ := hS; go_simp) hHeld ?_
  try simp only [Act.put, List.setIfInBounds_toArray, List.set_cons_zero, List.set_cons_succ]
  refine held_yes 3 (some 24) (.bool false) rfl rfl (by kernel_rfl) (by kernel_rfl) (by kernel_rfl) (fun _ _ _ h => h) rfl (fun w' hS => by obtain ⟨s0, s1, s2⟩ := hS; go_simp) hHeld ?_
  try simp only [Act.put, List.setIfInBounds_toArray, List.set_cons_zero, List.set_cons_succ]
  refine held_yes 4 (some 25) (.slice A l.length cap) rfl rfl (by kernel_rfl) (by kernel_rfl) (by kernel_rfl) (fun _ _ _ h => h) rfl (fun w' hS => by obtain ⟨s0, s1, s2⟩ := hS; go_simp) hHeld ?_
  try simp only [Act.put, List.setIfInBounds_toArray, List.set_cons_zero, List.set_cons_succ]
  refine held_yes 5 (some 26) (.int .i64 l.length) rfl rfl (by kernel_rfl) (by kernel_rfl) (by kernel_rfl) (fun _ _ _ h => h) rfl (fun w' hS => by obtain ⟨s0, s1, s2⟩ := hS; go_simp) hHeld ?_
  try simp only [Act.put, List.setIfInBounds_toArray, List.set_cons_zero, List.set_cons_succ]
  refine held_yes 6 (some 27) (.bool false) rfl rfl (by kernel_rfl) (by kernel_rfl) (by kernel_rfl) (fun _ _ _ h => h) rfl (fun w' hS => by obtain ⟨s0, s1, s2⟩ := hS; go_simp) hHeld ?_
  try simp only [Act.put, List.setIfInBounds_toArray, List.set_cons_zero, List.set_cons_succ]
  refine held_yes 7 (some 28) (.bool false) rfl rfl (by kernel_rfl) (by kernel_rfl) (by kernel_rfl) (fun _ _ _ h => h) rfl (fun w' hS => by obtain ⟨s0, s1, s2⟩ := hS; go_simp) hHeld ?_
  try simp only [Act.put, List.setIfInBounds_toArray, List.set_cons_zero, List.set_cons_succ]
  refine held_yes 8 (some 29) (.bool false) rfl rfl (by kernel_rfl) (by kernel_rfl) (by kernel_rfl) (fun _ _ _ h => h) rfl (fun w' hS => by obtain ⟨s0, s1, s2⟩ := hS; go_simp) hHeld ?_
  try simp only [Act.put, List.setIfInBounds_toArray, List.set_cons_zero, List.set_cons_succ]
  refine held_yes 9 (some 30) (.slice Au l.length cu) rfl rfl (by kernel_rfl) (by kernel_rfl) (by kernel_rfl) (fun _ _ _ h => h) rfl (fun w' hS => by obtain ⟨s0, s1, s2⟩ := hS; go_simp) hHeld ?_
  try simp only [Act.put, List.setIfInBounds_toArray, List.set_cons_zero, List.set_cons_succ]
  refine wpAnyH_ready (rs := [10]) (by kernel_rfl) (by simp) ?_
  refine AllReadyH.cons rfl (fun K hK => ?_) AllReadyH.nil
  go_simp
  refine (kCk _ (ksu _ hX)).mono ?_
  rintro e1 V2 ⟨rfl, hB⟩
  replace hX := hX.trans (hB.mono hX.size)
  go_wp2_with fail
  refine hK.out _ _ (kk _ hX) (fun hHeld => ?_)
  clear hK K hB
  try simp only [Act.put, List.setIfInBounds_toArray, List.set_cons_zero, List.set_cons_succ]
  by_cases hn0 : n = 0
  case neg => as_aux_lemma =>
    have hne : (n != 0) = true := by simpa using hn0
    refine held_yes 11 (some 32) (.bool true) rfl rfl (by kernel_rfl) (by kernel_rfl) (by kernel_rfl) (fun _ _ _ h => h) rfl (fun w' hS => by obtain ⟨s0, s1, s2⟩ := hS; go_simp) hHeld ?_
    try simp only [Act.put, List.setIfInBounds_toArray, List.set_cons_zero, List.set_cons_succ]
    refine held_yes 12 (some 33) (.bool true) rfl rfl (by kernel_rfl) (by kernel_rfl) (by kernel_rfl) (fun _ _ _ h => h) rfl (fun w' hS => by obtain ⟨s0, s1, s2⟩ := hS; go_simp) hHeld ?_
    try simp only [Act.put, List.setIfInBounds_toArray, List.set_cons_zero, List.set_cons_succ]
    refine held_yes 13 (some 34) (.bool true) rfl rfl (by kernel_rfl) (by kernel_rfl) (by kernel_rfl) (fun _ _ _ h => h) rfl (fun w' hS => by obtain ⟨s0, s1, s2⟩ := hS; go_simp) hHeld ?_
    try simp only [Act.put, List.setIfInBounds_toArray, List.set_cons_zero, List.set_cons_succ]
    refine held_no 14 (some 35) rfl rfl (by kernel_rfl) (by kernel_rfl) (by kernel_rfl) (fun _ _ _ h => h) rfl hHeld ?_
    try simp only [Act.put, List.setIfInBounds_toArray, List.set_cons_zero, List.set_cons_succ]
    refine held_no 15 (some 36) rfl rfl (by kernel_rfl) (by kernel_rfl) (by kernel_rfl) (fun _ _ _ h => h) rfl hHeld ?_
    try simp only [Act.put, List.setIfInBounds_toArray, List.set_cons_zero, List.set_cons_succ]
    refine held_no 16 (some 37) rfl rfl (by kernel_rfl) (by kernel_rfl) (by kernel_rfl) (fun _ _ _ h => h) rfl hHeld ?_
    try simp only [Act.put, List.setIfInBounds_toArray, List.set_cons_zero, List.set_cons_succ]
    refine held_no 17 (some 38) rfl rfl (by kernel_rfl) (by kernel_rfl) (by kernel_rfl) (fun _ _ _ h => h) rfl hHeld ?_
    try simp only [Act.put, List.setIfInBounds_toArray, List.set_cons_zero, List.set_cons_succ]
    refine held_yes 18 (some 39) (.bool true) rfl rfl (by kernel_rfl) (by kernel_rfl) (by kernel_rfl) (fun _ _ _ h => h) rfl (fun w' hS => by obtain ⟨s0, s1, s2⟩ := hS; go_simp) hHeld ?_
    try simp only [Act.put, List.setIfInBounds_toArray, List.set_cons_zero, List.set_cons_succ]
    refine held_yes 19 (some 40) (.bool true) rfl rfl (by kernel_rfl) (by kernel_rfl) (by kernel_rfl) (fun _ _ _ h => h) rfl (fun w' hS => by obtain ⟨s0, s1, s2⟩ := hS; go_simp) hHeld ?_
    try simp only [Act.put, List.setIfInBounds_toArray, List.set_cons_zero, List.set_cons_succ]
    refine held_no 20 (some 41) rfl rfl (by kernel_rfl) (by kernel_rfl) (by kernel_rfl) (fun _ _ _ h => h) rfl hHeld ?_
    try simp only [Act.put, List.setIfInBounds_toArray, List.set_cons_zero, List.set_cons_succ]
    refine held_no 21 (some 42) rfl rfl (by kernel_rfl) (by kernel_rfl) (by kernel_rfl) (fun _ _ _ h => h) rfl hHeld ?_
    try simp only [Act.put, List.setIfInBounds_toArray, List.set_cons_zero, List.set_cons_succ]
    refine held_no 22 (some 43) rfl rfl (by kernel_rfl) (by kernel_rfl) (by kernel_rfl) (fun _ _ _ h => h) rfl hHeld ?_
    try simp only [Act.put, List.setIfInBounds_toArray, List.set_cons_zero, List.set_cons_succ]
    refine held_no 23 (some 44) rfl rfl (by kernel_rfl) (by kernel_rfl) (by kernel_rfl) (fun _ _ _ h => h) rfl hHeld ?_
    try simp only [Act.put, List.setIfInBounds_toArray, List.set_cons_zero, List.set_cons_succ]
    refine held_yes 24 (some 45) (.bool true) rfl rfl (by kernel_rfl) (by kernel_rfl) (by kernel_rfl) (fun _ _ _ h => h) rfl (fun w' hS => by obtain ⟨s0, s1, s2⟩ := hS; go_simp) hHeld ?_
    try simp only [Act.put, List.setIfInBounds_toArray, List.set_cons_zero, List.set_cons_succ]
    refine held_yes 25 (some 46) (.bool true) rfl rfl (by kernel_rfl) (by kernel_rfl) (by kernel_rfl) (fun _ _ _ h => h) rfl (fun w' hS => by obtain ⟨s0, s1, s2⟩ := hS; go_simp) hHeld ?_
    try simp only [Act.put, List.setIfInBounds_toArray, List.set_cons_zero, List.set_cons_succ]
    refine held_no 26 (some 47) rfl rfl (by kernel_rfl) (by kernel_rfl) (by kernel_rfl) (fun _ _ _ h => h) rfl hHeld ?_
    try simp only [Act.put, List.setIfInBounds_toArray, List.set_cons_zero, List.set_cons_succ]
    refine held_no 27 (some 48) rfl rfl (by kernel_rfl) (by kernel_rfl) (by kernel_rfl) (fun _ _ _ h => h) rfl hHeld ?_
    try simp only [Act.put, List.setIfInBounds_toArray, List.set_cons_zero, List.set_cons_succ]
    refine held_no 28 (some 49) rfl rfl (by kernel_rfl) (by kernel_rfl) (by kernel_rfl) (fun _ _ _ h => h) rfl hHeld ?_
    try simp only [Act.put, List.setIfInBounds_toArray, List.set_cons_zero, List.set_cons_succ]
    refine held_no 29 (some 50) rfl rfl (by kernel_rfl) (by kernel_rfl) (by kernel_rfl) (fun _ _ _ h => h) rfl hHeld ?_
    try simp only [Act.put, List.setIfInBounds_toArray, List.set_cons_zero, List.set_cons_succ]
    refine held_no 30 (some 51) rfl rfl (by kernel_rfl) (by kernel_rfl) (by kernel_rfl) (fun _ _ _ h => h) rfl hHeld ?_
    try simp only [Act.put, List.setIfInBounds_toArray, List.set_cons_zero, List.set_cons_succ]
    refine held_no 31 (some 52) rfl rfl (by kernel_rfl) (by kernel_rfl) (by kernel_rfl) (fun _ _ _ h => h) rfl hHeld ?_
    try simp only [Act.put, List.setIfInBounds_toArray, List.set_cons_zero, List.set_cons_succ]
    refine held_no 32 (some 53) rfl rfl (by kernel_rfl) (by kernel_rfl) (by kernel_rfl) (fun _ _ _ h => h) rfl hHeld ?_
    try simp only [Act.put, List.setIfInBounds_toArray, List.set_cons_zero, List.set_cons_succ]
    refine held_no 33 (some 54) rfl rfl (by kernel_rfl) (by kernel_rfl) (by kernel_rfl) (fun _ _ _ h => h) rfl hHeld ?_
    try simp only [Act.put, List.setIfInBounds_toArray, List.set_cons_zero, List.set_cons_succ]
    refine held_yes 34 (some 55) (.bool true) rfl rfl (by kernel_rfl) (by kernel_rfl) (by kernel_rfl) (fun _ _ _ h => h) rfl (fun w' hS => by obtain ⟨s0, s1, s2⟩ := hS; go_simp) hHeld ?_
    try simp only [Act.put, List.setIfInBounds_toArray, List.set_cons_zero, List.set_cons_succ]
    refine wpAnyH_done (by kernel_rfl) ?_ _
    clear hHeld
    have hBo := hBw _ hX
    go_wp2_with (go_at_call 9; refine (awake9_ok _ (hgk.below hBo)).mono ?_; rintro e w9 ⟨rfl, hQ9⟩)
    go_ret
    exact ⟨rfl, hBo.trans (hQ9.mono hBo.size)⟩
  case pos =>
  have hne : (n != 0) = false := by simpa using hn0
  obtain ⟨b60, hb60⟩ : ∃ b, decide ((60 : Int) < (kind.size : Int)) = b := ⟨_, rfl⟩
  cases b60 with
  | true =>
    refine held_yes 11 (some 32) (.bool false) rfl rfl (by kernel_rfl) (by kernel_rfl) (by kernel_rfl) (fun _ _ _ h => h) rfl (fun w' hS => by obtain ⟨s0, s1, s2⟩ := hS; go_simp) hHeld ?_
    try simp only [Act.put, List.setIfInBounds_toArray, List.set_cons_zero, List.set_cons_succ]
    refine held_yes 12 (some 33) (.bool false) rfl rfl (by kernel_rfl) (by kernel_rfl) (by kernel_rfl) (fun _ _ _ h => h) rfl (fun w' hS => by obtain ⟨s0, s1, s2⟩ := hS; go_simp) hHeld ?_
    try simp only [Act.put, List.setIfInBounds_toArray, List.set_cons_zero, List.set_cons_succ]
    refine held_yes 13 (some 34) (.bool false) rfl rfl (by kernel_rfl) (by kernel_rfl) (by kernel_rfl) (fun _ _ _ h => h) rfl (fun w' hS => by obtain ⟨s0, s1, s2⟩ := hS; go_simp) hHeld ?_
    try simp only [Act.put, List.setIfInBounds_toArray, List.set_cons_zero, List.set_cons_succ]
    refine held_yes 14 (some 35) (.pointer (some ⟨w.heap.size, 0, none⟩)) rfl rfl (by kernel_rfl) (by kernel_rfl) (by kernel_rfl) (fun _ _ _ h => h) rfl (fun w' hS => by obtain ⟨s0, s1, s2⟩ := hS; go_simp) hHeld ?_
    try simp only [Act.put, List.setIfInBounds_toArray, List.set_cons_zero, List.set_cons_succ]
    refine held_yes 15 (some 36) (.string kind) rfl rfl (by kernel_rfl) (by kernel_rfl) (by kernel_rfl) (fun _ _ _ h => h) rfl (fun w' hS => by obtain ⟨s0, s1, s2⟩ := hS; go_simp) hHeld ?_
    try simp only [Act.put, List.setIfInBounds_toArray, List.set_cons_zero, List.set_cons_succ]
    refine held_yes 16 (some 37) (.int .i64 kind.size) rfl rfl (by kernel_rfl) (by kernel_rfl) (by kernel_rfl) (fun _ _ _ h => h) rfl (fun w' hS => by obtain ⟨s0, s1, s2⟩ := hS; go_simp) hHeld ?_
    try simp only [Act.put, List.setIfInBounds_toArray, List.set_cons_zero, List.set_cons_succ]
    refine held_yes 17 (some 38) (.bool true) rfl rfl (by kernel_rfl) (by kernel_rfl) (by kernel_rfl) (fun _ _ _ h => h) rfl (fun w' hS => by obtain ⟨s0, s1, s2⟩ := hS; go_simp) hHeld ?_
    try simp only [Act.put, List.setIfInBounds_toArray, List.set_cons_zero, List.set_cons_succ]
    refine held_yes 18 (some 39) (.bool true) rfl rfl (by kernel_rfl) (by kernel_rfl) (by kernel_rfl) (fun _ _ _ h => h) rfl (fun w' hS => by obtain ⟨s0, s1, s2⟩ := hS; go_simp) hHeld ?_
    try simp only [Act.put, List.setIfInBounds_toArray, List.set_cons_zero, List.set_cons_succ]
    refine held_yes 19 (some 40) (.bool true) rfl rfl (by kernel_rfl) (by kernel_rfl) (by kernel_rfl) (fun _ _ _ h => h) rfl (fun w' hS => by obtain ⟨s0, s1, s2⟩ := hS; go_simp) hHeld ?_
    try simp only [Act.put, List.setIfInBounds_toArray, List.set_cons_zero, List.set_cons_succ]
    refine held_no 20 (some 41) rfl rfl (by kernel_rfl) (by kernel_rfl) (by kernel_rfl) (fun _ _ _ h => h) rfl hHeld ?_
    try simp only [Act.put, List.setIfInBounds_toArray, List.set_cons_zero, List.set_cons_succ]
    refine held_no 21 (some 42) rfl rfl (by kernel_rfl) (by kernel_rfl) (by kernel_rfl) (fun _ _ _ h => h) rfl hHeld ?_
    try simp only [Act.put, List.setIfInBounds_toArray, List.set_cons_zero, List.set_cons_succ]
    refine held_no 22 (some 43) rfl rfl (by kernel_rfl) (by kernel_rfl) (by kernel_rfl) (fun _ _ _ h => h) rfl hHeld ?_
    try simp only [Act.put, List.setIfInBounds_toArray, List.set_cons_zero, List.set_cons_succ]
    refine held_no 23 (some 44) rfl rfl (by kernel_rfl) (by kernel_rfl) (by kernel_rfl) (fun _ _ _ h => h) rfl hHeld ?_
    try simp only [Act.put, List.setIfInBounds_toArray, List.set_cons_zero, List.set_cons_succ]
    refine held_yes 24 (some 45) (.bool true) rfl rfl (by kernel_rfl) (by kernel_rfl) (by kernel_rfl) (fun _ _ _ h => h) rfl (fun w' hS => by obtain ⟨s0, s1, s2⟩ := hS; go_simp) hHeld ?_
    try simp only [Act.put, List.setIfInBounds_toArray, List.set_cons_zero, List.set_cons_succ]
    refine held_yes 25 (some 46) (.bool true) rfl rfl (by kernel_rfl) (by kernel_rfl) (by kernel_rfl) (fun _ _ _ h => h) rfl (fun w' hS => by obtain ⟨s0, s1, s2⟩ := hS; go_simp) hHeld ?_
    try simp only [Act.put, List.setIfInBounds_toArray, List.set_cons_zero, List.set_cons_succ]
    refine held_no 26 (some 47) rfl rfl (by kernel_rfl) (by kernel_rfl) (by kernel_rfl) (fun _ _ _ h => h) rfl hHeld ?_
    try simp only [Act.put, List.setIfInBounds_toArray, List.set_cons_zero, List.set_cons_succ]
    refine held_no 27 (some 48) rfl rfl (by kernel_rfl) (by kernel_rfl) (by kernel_rfl) (fun _ _ _ h => h) rfl hHeld ?_
    try simp only [Act.put, List.setIfInBounds_toArray, List.set_cons_zero, List.set_cons_succ]
    refine held_no 28 (some 49) rfl rfl (by kernel_rfl) (by kernel_rfl) (by kernel_rfl) (fun _ _ _ h => h) rfl hHeld ?_
    try simp only [Act.put, List.setIfInBounds_toArray, List.set_cons_zero, List.set_cons_succ]
    refine held_no 29 (some 50) rfl rfl (by kernel_rfl) (by kernel_rfl) (by kernel_rfl) (fun _ _ _ h => h) rfl hHeld ?_
    try simp only [Act.put, List.setIfInBounds_toArray, List.set_cons_zero, List.set_cons_succ]
    refine held_no 30 (some 51) rfl rfl (by kernel_rfl) (by kernel_rfl) (by kernel_rfl) (fun _ _ _ h => h) rfl hHeld ?_
    try simp only [Act.put, List.setIfInBounds_toArray, List.set_cons_zero, List.set_cons_succ]
    refine held_no 31 (some 52) rfl rfl (by kernel_rfl) (by kernel_rfl) (by kernel_rfl) (fun _ _ _ h => h) rfl hHeld ?_
    try simp only [Act.put, List.setIfInBounds_toArray, List.set_cons_zero, List.set_cons_succ]
    refine held_no 32 (some 53) rfl rfl (by kernel_rfl) (by kernel_rfl) (by kernel_rfl) (fun _ _ _ h => h) rfl hHeld ?_
    try simp only [Act.put, List.setIfInBounds_toArray, List.set_cons_zero, List.set_cons_succ]
    refine held_no 33 (some 54) rfl rfl (by kernel_rfl) (by kernel_rfl) (by kernel_rfl) (fun _ _ _ h => h) rfl hHeld ?_
    try simp only [Act.put, List.setIfInBounds_toArray, List.set_cons_zero, List.set_cons_succ]
    refine held_yes 34 (some 55) (.bool true) rfl rfl (by kernel_rfl) (by kernel_rfl) (by kernel_rfl) (fun _ _ _ h => h) rfl (fun w' hS => by obtain ⟨s0, s1, s2⟩ := hS; go_simp) hHeld ?_
    try simp only [Act.put, List.setIfInBounds_toArray, List.set_cons_zero, List.set_cons_succ]
    refine wpAnyH_done (by kernel_rfl) ?_ _
    clear hHeld
    have hBo := hBw _ hX
    go_wp2_with (go_at_call 9; refine (awake9_ok _ (hgk.below hBo)).mono ?_; rintro e w9 ⟨rfl, hQ9⟩)
    go_ret
    exact ⟨rfl, hBo.trans (hQ9.mono hBo.size)⟩
  | false =>
  refine held_yes 11 (some 32) (.bool false) rfl rfl (by kernel_rfl) (by kernel_rfl) (by kernel_rfl) (fun _ _ _ h => h) rfl (fun w' hS => by obtain ⟨s0, s1, s2⟩ := hS; go_simp) hHeld ?_
  try simp only [Act.put, List.setIfInBounds_toArray, List.set_cons_zero, List.set_cons_succ]
  refine held_yes 12 (some 33) (.bool false) rfl rfl (by kernel_rfl) (by kernel_rfl) (by kernel_rfl) (fun _ _ _ h => h) rfl (fun w' hS => by obtain ⟨s0, s1, s2⟩ := hS; go_simp) hHeld ?_
  try simp only [Act.put, List.setIfInBounds_toArray, List.set_cons_zero, List.set_cons_succ]
  refine held_yes 13 (some 34) (.bool false) rfl rfl (by kernel_rfl) (by kernel_rfl) (by kernel_rfl) (fun _ _ _ h => h) rfl (fun w' hS => by obtain ⟨s0, s1, s2⟩ := hS; go_simp) hHeld ?_
  try simp only [Act.put, List.setIfInBounds_toArray, List.set_cons_zero, List.set_cons_succ]
  refine held_yes 14 (some 35) (.pointer (some ⟨w.heap.size, 0, none⟩)) rfl rfl (by kernel_rfl) (by kernel_rfl) (by kernel_rfl) (fun _ _ _ h => h) rfl (fun w' hS => by obtain ⟨s0, s1, s2⟩ := hS; go_simp) hHeld ?_
  try simp only [Act.put, List.setIfInBounds_toArray, List.set_cons_zero, List.set_cons_succ]
  refine held_yes 15 (some 36) (.string kind) rfl rfl (by kernel_rfl) (by kernel_rfl) (by kernel_rfl) (fun _ _ _ h => h) rfl (fun w' hS => by obtain ⟨s0, s1, s2⟩ := hS; go_simp) hHeld ?_
  try simp only [Act.put, List.setIfInBounds_toArray, List.set_cons_zero, List.set_cons_succ]
  refine held_yes 16 (some 37) (.int .i64 kind.size) rfl rfl (by kernel_rfl) (by kernel_rfl) (by kernel_rfl) (fun _ _ _ h => h) rfl (fun w' hS => by obtain ⟨s0, s1, s2⟩ := hS; go_simp) hHeld ?_
  try simp only [Act.put, List.setIfInBounds_toArray, List.set_cons_zero, List.set_cons_succ]
  refine held_yes 17 (some 38) (.bool false) rfl rfl (by kernel_rfl) (by kernel_rfl) (by kernel_rfl) (fun _ _ _ h => h) rfl (fun w' hS => by obtain ⟨s0, s1, s2⟩ := hS; go_simp) hHeld ?_
  try simp only [Act.put, List.setIfInBounds_toArray, List.set_cons_zero, List.set_cons_succ]
  refine held_yes 18 (some 39) (.bool false) rfl rfl (by kernel_rfl) (by kernel_rfl) (by kernel_rfl) (fun _ _ _ h => h) rfl (fun w' hS => by obtain ⟨s0, s1, s2⟩ := hS; go_simp) hHeld ?_
  try simp only [Act.put, List.setIfInBounds_toArray, List.set_cons_zero, List.set_cons_succ]
  refine held_yes 19 (some 40) (.bool false) rfl rfl (by kernel_rfl) (by kernel_rfl) (by kernel_rfl) (fun _ _ _ h => h) rfl (fun w' hS => by obtain ⟨s0, s1, s2⟩ := hS; go_simp) hHeld ?_
  try simp only [Act.put, List.setIfInBounds_toArray, List.set_cons_zero, List.set_cons_succ]
  refine held_yes 20 (some 41) (.pointer (some ⟨w.heap.size, 0, none⟩)) rfl rfl (by kernel_rfl) (by kernel_rfl) (by kernel_rfl) (fun _ _ _ h => h) rfl (fun w' hS => by obtain ⟨s0, s1, s2⟩ := hS; go_simp) hHeld ?_
  try simp only [Act.put, List.setIfInBounds_toArray, List.set_cons_zero, List.set_cons_succ]
  refine held_yes 21 (some 42) (.string kind) rfl rfl (by kernel_rfl) (by kernel_rfl) (by kernel_rfl) (fun _ _ _ h => h) rfl (fun w' hS => by obtain ⟨s0, s1, s2⟩ := hS; go_simp) hHeld ?_
  try simp only [Act.put, List.setIfInBounds_toArray, List.set_cons_zero, List.set_cons_succ]
  cases nb with
  | false =>
    refine wpAnyH_ready (rs := [22]) (by kernel_rfl) (by simp) ?_
    refine AllReadyH.cons rfl (fun K hK => ?_) AllReadyH.nil
    go_simp
    refine (kNm _).mono ?_
    rintro e1 w5 ⟨rfl, hw5⟩
    subst hw5
    go_wp2_with fail
    refine hK.out _ _ (kk _ hX) (fun hHeld => ?_)
    clear hK K
    try simp only [Act.put, List.setIfInBounds_toArray, List.set_cons_zero, List.set_cons_succ]
    refine held_yes 23 (some 44) (.bool true) rfl rfl (by kernel_rfl) (by kernel_rfl) (by kernel_rfl) (fun _ _ _ h => h) rfl (fun w' hS => by obtain ⟨s0, s1, s2⟩ := hS; go_simp) hHeld ?_
    try simp only [Act.put, List.setIfInBounds_toArray, List.set_cons_zero, List.set_cons_succ]
    refine held_yes 24 (some 45) (.bool true) rfl rfl (by kernel_rfl) (by kernel_rfl) (by kernel_rfl) (fun _ _ _ h => h) rfl (fun w' hS => by obtain ⟨s0, s1, s2⟩ := hS; go_simp) hHeld ?_
    try simp only [Act.put, List.setIfInBounds_toArray, List.set_cons_zero, List.set_cons_succ]
    refine held_yes 25 (some 46) (.bool true) rfl rfl (by kernel_rfl) (by kernel_rfl) (by kernel_rfl) (fun _ _ _ h => h) rfl (fun w' hS => by obtain ⟨s0, s1, s2⟩ := hS; go_simp) hHeld ?_
    try simp only [Act.put, List.setIfInBounds_toArray, List.set_cons_zero, List.set_cons_succ]
    refine held_no 26 (some 47) rfl rfl (by kernel_rfl) (by kernel_rfl) (by kernel_rfl) (fun _ _ _ h => h) rfl hHeld ?_
    try simp only [Act.put, List.setIfInBounds_toArray, List.set_cons_zero, List.set_cons_succ]
    refine held_no 27 (some 48) rfl rfl (by kernel_rfl) (by kernel_rfl) (by kernel_rfl) (fun _ _ _ h => h) rfl hHeld ?_
    try simp only [Act.put, List.setIfInBounds_toArray, List.set_cons_zero, List.set_cons_succ]
    refine held_no 28 (some 49) rfl rfl (by kernel_rfl) (by kernel_rfl) (by kernel_rfl) (fun _ _ _ h => h) rfl hHeld ?_
    try simp only [Act.put, List.setIfInBounds_toArray, List.set_cons_zero, List.set_cons_succ]
    refine held_no 29 (some 50) rfl rfl (by kernel_rfl) (by kernel_rfl) (by kernel_rfl) (fun _ _ _ h => h) rfl hHeld ?_
    try simp only [Act.put, List.setIfInBounds_toArray, List.set_cons_zero, List.set_cons_succ]
    refine held_no 30 (some 51) rfl rfl (by kernel_rfl) (by kernel_rfl) (by kernel_rfl) (fun _ _ _ h => h) rfl hHeld ?_
    try simp only [Act.put, List.setIfInBounds_toArray, List.set_cons_zero, List.set_cons_succ]
    refine held_no 31 (some 52) rfl rfl (by kernel_rfl) (by kernel_rfl) (by kernel_rfl) (fun _ _ _ h => h) rfl hHeld ?_
    try simp only [Act.put, List.setIfInBounds_toArray, List.set_cons_zero, List.set_cons_succ]
    refine held_no 32 (some 53) rfl rfl (by kernel_rfl) (by kernel_rfl) (by kernel_rfl) (fun _ _ _ h => h) rfl hHeld ?_
    try simp only [Act.put, List.setIfInBounds_toArray, List.set_cons_zero, List.set_cons_succ]
    refine held_no 33 (some 54) rfl rfl (by kernel_rfl) (by kernel_rfl) (by kernel_rfl) (fun _ _ _ h => h) rfl hHeld ?_
    try simp only [Act.put, List.setIfInBounds_toArray, List.set_cons_zero, List.set_cons_succ]
    refine held_yes 34 (some 55) (.bool true) rfl rfl (by kernel_rfl) (by kernel_rfl) (by kernel_rfl) (fun _ _ _ h => h) rfl (fun w' hS => by obtain ⟨s0, s1, s2⟩ := hS; go_simp) hHeld ?_
    try simp only [Act.put, List.setIfInBounds_toArray, List.set_cons_zero, List.set_cons_succ]
    refine wpAnyH_done (by kernel_rfl) ?_ _
    clear hHeld
    have hBo := hBw _ hX
    go_wp2_with (go_at_call 9; refine (awake9_ok _ (hgk.below hBo)).mono ?_; rintro e w9 ⟨rfl, hQ9⟩)
    go_ret
    exact ⟨rfl, hBo.trans (hQ9.mono hBo.size)⟩
  | true =>
  have HN2 := Lib.hid (HN.out rfl)
  clear HN
  refine wpAnyH_ready (rs := [22]) (by kernel_rfl) (by simp) ?_
  refine AllReadyH.cons rfl (fun K hK => ?_) AllReadyH.nil
  go_simp
  refine (kNm _).mono ?_
  rintro e1 w5 ⟨rfl, hw5⟩
  subst hw5
  go_wp2_with fail
  refine hK.out _ _ (kk _ hX) (fun hHeld => ?_)
  clear hK K
  try simp only [Act.put, List.setIfInBounds_toArray, List.set_cons_zero, List.set_cons_succ]
  refine held_yes 23 (some 44) (.bool false) rfl rfl (by kernel_rfl) (by kernel_rfl) (by kernel_rfl) (fun _ _ _ h => h) rfl (fun w' hS => by obtain ⟨s0, s1, s2⟩ := hS; go_simp) hHeld ?_
  try simp only [Act.put, List.setIfInBounds_toArray, List.set_cons_zero, List.set_cons_succ]
  refine held_yes 24 (some 45) (.bool false) rfl rfl (by kernel_rfl) (by kernel_rfl) (by kernel_rfl) (fun _ _ _ h => h) rfl (fun w' hS => by obtain ⟨s0, s1, s2⟩ := hS; go_simp) hHeld ?_
  try simp only [Act.put, List.setIfInBounds_toArray, List.set_cons_zero, List.set_cons_succ]
  refine held_yes 25 (some 46) (.bool false) rfl rfl (by kernel_rfl) (by kernel_rfl) (by kernel_rfl) (fun _ _ _ h => h) rfl (fun w' hS => by obtain ⟨s0, s1, s2⟩ := hS; go_simp) hHeld ?_
  try simp only [Act.put, List.setIfInBounds_toArray, List.set_cons_zero, List.set_cons_succ]
  refine held_yes 26 (some 47) (.pointer (some ⟨w.heap.size, 1, none⟩)) rfl rfl (by kernel_rfl) (by kernel_rfl) (by kernel_rfl) (fun _ _ _ h => h) rfl (fun w' hS => by obtain ⟨s0, s1, s2⟩ := hS; go_simp) hHeld ?_
  try simp only [Act.put, List.setIfInBounds_toArray, List.set_cons_zero, List.set_cons_succ]
  refine held_yes 27 (some 48) (.int .i64 g0) rfl rfl (by kernel_rfl) (by kernel_rfl) (by kernel_rfl) (fun _ _ _ h => h) rfl (fun w' hS => by obtain ⟨s0, s1, s2⟩ := hS; go_simp) hHeld ?_
  try simp only [Act.put, List.setIfInBounds_toArray, List.set_cons_zero, List.set_cons_succ]
  refine held_yes 29 (some 50) (.pointer (some ⟨w.heap.size, 2, none⟩)) rfl rfl (by kernel_rfl) (by kernel_rfl) (by kernel_rfl) (fun _ _ _ h => h) rfl (fun w' hS => by obtain ⟨s0, s1, s2⟩ := hS; go_simp) hHeld ?_
  try simp only [Act.put, List.setIfInBounds_toArray, List.set_cons_zero, List.set_cons_succ]
  refine held_yes 30 (some 51) (.int .i64 day) rfl rfl (by kernel_rfl) (by kernel_rfl) (by kernel_rfl) (fun _ _ _ h => h) rfl (fun w' hS => by obtain ⟨s0, s1, s2⟩ := hS; go_simp) hHeld ?_
  try simp only [Act.put, List.setIfInBounds_toArray, List.set_cons_zero, List.set_cons_succ]
  refine wpAnyH_ready (rs := [28]) (by kernel_rfl) (by simp) ?_
  refine AllReadyH.cons rfl (fun K hK => ?_) AllReadyH.nil
  go_simp
  refine (kGr _).mono ?_
  rintro e1 w5 ⟨rfl, hw5⟩
  subst hw5
  go_wp2_with fail
  refine hK.out _ _ (kk _ hX) (fun hHeld => ?_)
  clear hK K
  try simp only [Act.put, List.setIfInBounds_toArray, List.set_cons_zero, List.set_cons_succ]
  refine wpAnyH_ready (rs := [31]) (by kernel_rfl) (by simp) ?_
  refine AllReadyH.cons rfl (fun K hK => ?_) AllReadyH.nil
  go_simp
  refine (kDy _).mono ?_
  rintro e1 w5 ⟨rfl, hw5⟩
  subst hw5
  go_wp2_with fail
  refine hK.out _ _ (kk _ hX) (fun hHeld => ?_)
  clear hK K
  try simp only [Act.put, List.setIfInBounds_toArray, List.set_cons_zero, List.set_cons_succ]
  by_cases hz : eg + ed = 0
  case neg => as_aux_lemma =>
    have hzb : (eg + ed != 0) = true := by simpa using hz
    have we1 := wrap64_small (n := eg + ed) (by omega)
    have we2 := wrap_small (n := eg + ed) (by omega)
    refine held_yes 32 (some 53) (.int .i64 (eg + ed)) rfl rfl (by kernel_rfl) (by kernel_rfl) (by kernel_rfl) (fun _ _ _ h => h) rfl (fun w' hS => by obtain ⟨s0, s1, s2⟩ := hS; go_simp) hHeld ?_
    try simp only [Act.put, List.setIfInBounds_toArray, List.set_cons_zero, List.set_cons_succ]
    refine held_yes 33 (some 54) (.bool true) rfl rfl (by kernel_rfl) (by kernel_rfl) (by kernel_rfl) (fun _ _ _ h => h) rfl (fun w' hS => by obtain ⟨s0, s1, s2⟩ := hS; go_simp) hHeld ?_
    try simp only [Act.put, List.setIfInBounds_toArray, List.set_cons_zero, List.set_cons_succ]
    refine held_yes 34 (some 55) (.bool true) rfl rfl (by kernel_rfl) (by kernel_rfl) (by kernel_rfl) (fun _ _ _ h => h) rfl (fun w' hS => by obtain ⟨s0, s1, s2⟩ := hS; go_simp) hHeld ?_
    try simp only [Act.put, List.setIfInBounds_toArray, List.set_cons_zero, List.set_cons_succ]
    refine wpAnyH_done (by kernel_rfl) ?_ _
    clear hHeld
    have hBo := hBw _ hX
    go_wp2_with (go_at_call 9; refine (awake9_ok _ (hgk.below hBo)).mono ?_; rintro e w9 ⟨rfl, hQ9⟩)
    go_ret
    exact ⟨rfl, hBo.trans (hQ9.mono hBo.size)⟩
  case pos =>
  have hz2 : eg = 0 ∧ ed = 0 := by omega
  clear hz hwg hwd
  obtain ⟨rfl, rfl⟩ := hz2
  have wz : IntKind.i64.wrap 0 = 0 := wrap_small (by omega)
  have wz2 : IntKind.i64.wrap (0 + 0) = 0 := wrap_small (by omega)
  refine held_yes 32 (some 53) (.int .i64 0) rfl rfl (by kernel_rfl) (by kernel_rfl) (by kernel_rfl) (fun _ _ _ h => h) rfl (fun w' hS => by obtain ⟨s0, s1, s2⟩ := hS; go_simp) hHeld ?_
  try simp only [Act.put, List.setIfInBounds_toArray, List.set_cons_zero, List.set_cons_succ]
  refine held_yes 33 (some 54) (.bool false) rfl rfl (by kernel_rfl) (by kernel_rfl) (by kernel_rfl) (fun _ _ _ h => h) rfl (fun w' hS => by obtain ⟨s0, s1, s2⟩ := hS; go_simp) hHeld ?_
  try simp only [Act.put, List.setIfInBounds_toArray, List.set_cons_zero, List.set_cons_succ]
  refine held_yes 34 (some 55) (.bool false) rfl rfl (by kernel_rfl) (by kernel_rfl) (by kernel_rfl) (fun _ _ _ h => h) rfl (fun w' hS => by obtain ⟨s0, s1, s2⟩ := hS; go_simp) hHeld ?_
  try simp only [Act.put, List.setIfInBounds_toArray, List.set_cons_zero, List.set_cons_succ]
  refine wpAnyH_done (by kernel_rfl) ?_ _
  have hl10 : l.length ≤ 10 := by have := of_decide_eq_false hb10; omega
  have hgx : BatX l 0 := hn0 ▸ HGX.out
  have hwish : wishE 0 kind g0 day = 0 := by
    unfold wishE
    rw [HN2.out, ← HEG.out, ← HED.out]
    rfl
  have hg9 : 0 ≤ g0 ∧ g0 ≤ 999999999 := (within_cases _ _ _).2.2.1 (HEG.out.symm)
  have kT := fun V (h : SlF encB V (.slice A l.length cap) l) => takenAll_ok _ l 0 kind g0 day V h hgx (by omega) hwish
  have hok := hgx.ok
  clear hHeld hb10 hne hb60 wz wz2 kSh kCk kNm kGr kDy hwish hn0
  obtain ⟨s0, s1, s2⟩ := kk _ hX
  go_wp2_with fail
  refine (kT _ (ksl _ hX)).mono ?_
  rintro e V3 ⟨⟨u, p, hp, hcase⟩, hB⟩
  have hsz3 := hX.size
  replace hX := hX.trans (hB.mono hX.size)
  have hplen : p.length = l.length := by have := hp.1.length_eq; simpa using this
  have hinv := TInv.all (kind := kind) (day := day) hg9.1 hp (fun i => (hok.grams i).1) p.length (Nat.le_refl _)
  rw [List.take_length] at hinv
  have hSp : availSum l kind day p = availSum l kind day (List.range l.length) := by
    refine availSum_perm ?_
    have := hp.1
    rwa [List.length_map] at this
  have hsum := hinv.sum
  rw [hSp] at hsum
  have HINV := Lib.hid hinv
  have HPP := Lib.hid (show ∀ i : Nat, i < l.length → i ∈ p from fun i h => by have := hp.1.mem_iff (a := i); rw [this]; simpa using h)
  have HSUM := Lib.hid hsum
  have HCASE := Lib.hid hcase
  clear kT hB hinv hsum hSp s0 s1 s2 hp hcase
  obtain ⟨U, er, rfl, hfact⟩ : ∃ U er, e = .returned (.tuple #[U, .int .i64 er]) ∧ ((0 < (runT l kind day p g0).2 ∧ U = .slice none 0 0 ∧ er = 32) ∨ (¬ 0 < (runT l kind day p g0).2 ∧ er = 0 ∧ ∃ B, OwnF encK 2 43 V3 B U (runT l kind day p g0).1)) := by
    rcases HCASE.out with ⟨h1, rfl⟩ | ⟨h1, rfl, h2⟩
    · exact ⟨_, _, rfl, .inl ⟨h1, rfl, rfl⟩⟩
    · exact ⟨_, _, rfl, .inr ⟨Int.not_lt.2 h1, rfl, _, h2⟩⟩
  have HF := Lib.hid hfact
  clear hfact HCASE
  have hlp : (runT l kind day p g0).1.length ≤ l.length := by rw [← hplen]; exact run_len l kind day p g0
  have HLP := Lib.hid hlp
  clear hlp hplen u
  generalize hst : runT l kind day p g0 = st at HINV HSUM HF HLP
  obtain ⟨TT, m⟩ := st
  dsimp only at HSUM HF HLP
  clear hst
  have hgr := hok.grams
  clear hsz3
  have ksl3 : ∀ V, Below V3.heap.size V3 V → SlF encB V (.slice A l.length cap) l := fun V h => ksl V (hX.trans (h.mono hX.size))
  have kk3 : ∀ V, Below V3.heap.size V3 V → V.cell? ⟨w.heap.size, 0, none⟩ = some (.string kind) ∧ V.cell? ⟨w.heap.size, 1, none⟩ = some (.int .i64 g0) ∧ V.cell? ⟨w.heap.size, 2, none⟩ = some (.int .i64 day) := fun V h => kk V (hX.trans (h.mono hX.size))
  have hBw3 : ∀ V, Below V3.heap.size V3 V → Below w.heap.size w V := fun V h => hBw V (hX.trans (h.mono hX.size))
  have hw3 : w.heap.size < V3.heap.size := by
    have h1 := hX.size
    have h2 := hB1.size
    have h3 := hltw
    omega
  clear hX ksl kk hBw ksu hus hB01 hB1
  go_wp2_with fail
  go_loopw [8, 70] (fun a i wr => ∃ k : Nat, k ≤ l.length ∧ i = .int .i64 k ∧ a = .int .i64 (availSum l kind day (List.range k)) ∧ Below V3.heap.size V3 wr) (fun _ i _ => l.length - (intOf i).toNat)
  case atStart => exact ⟨0, Nat.zero_le _, rfl, rfl, Below.refl _ _⟩
  case round => as_aux_lemma =>
    obtain ⟨k, hk, rfl, rfl, hX⟩ := hrel
    rename World => w4
    rcases Nat.lt_or_eq_of_le hk with hkn | rfl
    · obtain ⟨⟨nm, kd, gr, un⟩, hc⟩ : ∃ t, l[k]? = some t := ⟨_, List.getElem?_eq_getElem hkn⟩
      obtain ⟨b, o, rfl, -, hb, r0, r1, r2, r3⟩ := bat_cells (ksl3 _ hX) hc
      dsimp only at r0 r1 r2 r3
      have hgk2 := hgr k
      rw [gramsOf_at hc] at hgk2
      dsimp only at hgk2
      have hbd := availSum_bd kind day hgr (List.range k)
      rw [List.length_range] at hbd
      have hsn : availSum l kind day (List.range (k + 1)) = availSum l kind day (List.range k) + if forB (nm, kd, gr, un) kind day = true then gr else 0 := by
        rw [List.range_succ, availSum_snoc, avail_at hc, gramsOf_at hc]
      unfold forB at hsn
      dsimp only at hsn
      generalize availSum l kind day (List.range k) = S at hsn hbd
      obtain ⟨kb, hkb⟩ : ∃ kb, (kd.toList == kind.toList) = kb := ⟨_, rfl⟩
      obtain ⟨db, hdb⟩ : ∃ db, decide (day ≤ un) = db := ⟨_, rfl⟩
      rw [hkb, hdb] at hsn
      have hi0 : (0 : Int) ≤ k := by omega
      have hi1 : (k : Int) < l.length := by omega
      have HWS := Lib.hid (wrapR (n := S + gr) (by omega))
      have HWK := Lib.hid (wrapsL (show k < 1048576 by omega))
      have HKK := Lib.hid (show k + 1 ≤ l.length from hkn)
      have HKM := Lib.hid (show l.length - (k + 1) < l.length - k by omega)
      have hne0 : w.heap.size ≠ w4.heap.size := by have := hX.size; omega
      have hlt0 : w.heap.size < w4.heap.size := by have := hX.size; omega
      obtain ⟨q0, q1, q2⟩ := kk3 _ hX
      have hXa := hX.alloc hX.size (.cells #[.string nm, .string kd, .int .i64 gr, .int .i64 un] 73)
      have HX := Lib.hid hXa
      have HSN := Lib.hid hsn
      obtain ⟨wk1, wk2⟩ := HWK.out
      obtain ⟨ws1, ws2⟩ := HWS.out
      clear hXa hsn hbd hgk2 hX hc
      cases kb with
      | false =>
        go_wp2_with fail
        go_roundw
        case rel => exact ⟨k + 1, HKK.out, by simp, by rw [HSN.out]; simp, HX.out⟩
        case measure => exact HKM.out
      | true =>
        cases db with
        | false =>
          go_wp2_with fail
          go_roundw
          case rel => exact ⟨k + 1, HKK.out, by simp, by rw [HSN.out]; simp, HX.out⟩
          case measure => exact HKM.out
        | true =>
          go_wp2_with fail
          go_roundw
          case rel => exact ⟨k + 1, HKK.out, by simp, by rw [HSN.out]; simp, HX.out⟩
          case measure => exact HKM.out
    · have HX := Lib.hid hX
      obtain ⟨s0, s1, s2⟩ := kk3 _ hX
      generalize availSum l kind day (List.range l.length) = S at HSUM ⊢
      have hsum := HSUM.out
      rcases HF.out with ⟨hm, rfl, rfl⟩ | ⟨hm, rfl, B, hown⟩
      · have hlt : decide (S < g0) = true := decide_eq_true (by omega)
        have hBo := hBw3 _ hX
        clear hsum hm hX
        go_wp2_with (go_at_call 9; refine (awake9_ok _ (hgk.below hBo)).mono ?_; rintro e w9 ⟨rfl, hQ9⟩)
        go_ret
        exact ⟨rfl, hBo.trans (hQ9.mono hBo.size)⟩
      · have hlt : decide (S < g0) = false := decide_eq_false (by omega)
        have hm0 : m = 0 := by have := HINV.out.nn; dsimp only at this; omega
        subst hm0
        have hU := (hown.sl encK_len)
        obtain ⟨AU, cU, rfl⟩ := hU.form
        have hlp : decide (l.length < TT.length) = false := decide_eq_false (by have := HLP.out; omega)
        have ksk : ∀ V, Below V3.heap.size V3 V → SlF encK V (.slice AU TT.length cU) TT := fun V h => hU.below h
        have hmk := run_makeMap (P := Tryz.prog) 74 w4
        have hM0 := IMX.made w4
        have hXm := hX.alloc hX.size (.map #[] 0)
        have hm4 : V3.heap.size ≤ w4.heap.size := hX.size
        have hzm : w4.heap.size < (w4.alloc (.map #[] 0)).heap.size := by simp
        have HM0 := Lib.hid (And.intro hM0 (And.intro hXm hzm))
        clear hsum hm hM0 hXm hown hU hX HF HSUM hzm
        go_wp2_with fail
        clear hmk s0 s1 s2 hlt hlp
        generalize hmb : w4.heap.size = mb at HM0 hm4 ⊢
        go_loopw [11, 117] (fun a i wr => ∃ k : Nat, k ≤ TT.length ∧ i = .int .i64 k ∧ a = .int .i64 (sum2 (TT.take k)) ∧ IMX wr mb ((TT.take k).map (·.1)) ∧ Below V3.heap.size V3 wr ∧ mb < wr.heap.size) (fun _ i _ => TT.length - (intOf i).toNat)
        case atStart => exact ⟨0, Nat.zero_le _, rfl, rfl, HM0.out.1, HM0.out.2.1, by have := HM0.out.2.2; omega⟩
        case round => as_aux_lemma =>
          clear HM0 hmb
          obtain ⟨k, hk, rfl, rfl, hMap, hX, hmz⟩ := hrel
          rename World => w6
          rcases Nat.lt_or_eq_of_le hk with hkn | rfl
          · obtain ⟨⟨i, y⟩, hy⟩ : ∃ x, TT[k]? = some x := ⟨_, List.getElem?_eq_getElem hkn⟩
            obtain ⟨ub, uo, rfl, -, -, u0, u1⟩ := tak_cells (ksk _ hX) hy
            dsimp only at u0 u1
            obtain ⟨-, hav, hy1, hyg⟩ := HINV.out.at_ _ (List.mem_of_getElem? hy)
            dsimp only at hav hy1 hyg
            obtain ⟨⟨nm, kd, gr, un⟩, hc⟩ := avail_some hav
            rw [avail_at hc] at hav
            rw [gramsOf_at hc] at hyg
            unfold forB at hav
            dsimp only at hav hyg
            obtain ⟨hkb, hdb⟩ : (kd.toList == kind.toList) = true ∧ day ≤ un := by simpa using hav
            obtain ⟨b, o, rfl, -, -, r0, r1, r2, r3⟩ := bat_cells (ksl3 _ hX) hc
            dsimp only at r0 r1 r2 r3
            have hil : i < l.length := (List.getElem?_eq_some_iff.1 hc).1
            have hni : i ∉ (TT.take k).map (·.1) := take_new HINV.out.nd hy
            have hi0 : (0 : Int) ≤ k := by omega
            have hi1 : (k : Int) < TT.length := by omega
            have hj0 : (0 : Int) ≤ i := by omega
            have hj1 : (i : Int) < l.length := by omega
            have hd1 : decide ((i : Int) < 0) = false := decide_eq_false (by omega)
            have hd2 : decide ((l.length : Int) ≤ (i : Int)) = false := decide_eq_false (by omega)
            have hd3 : decide (y < 1) = false := decide_eq_false (by omega)
            have hd4 : decide (gr < y) = false := decide_eq_false (by omega)
            have hd5 : decide (un < day) = false := decide_eq_false (by omega)
            have hd6 : decide (l.length ≤ i) = false := decide_eq_false (by omega)
            have hlT := HLP.out
            have hlk1 : IntKind.i64.wrap ((TT.length : Int) - 1) = (TT.length : Int) - 1 := wrap_small (by omega)
            have hbs := sum2_bd HINV.out hok k
            dsimp only at hbs
            have hk10 : k ≤ 10 := by omega
            have HWS := Lib.hid (wrapR (n := sum2 (TT.take k) + y) (by have := (hok.grams i).2; rw [gramsOf_at hc] at this; dsimp only at this; omega))
            have HWK := Lib.hid (wrapsL (show k < 1048576 by omega))
            have HKK := Lib.hid (show k + 1 ≤ TT.length from hkn)
            have HKM := Lib.hid (show TT.length - (k + 1) < TT.length - k by omega)
            have HS2 := Lib.hid (show sum2 (TT.take (k + 1)) = sum2 (TT.take k) + y by rw [List.take_add_one, hy]; simp [sum2])
            have HSU := Lib.hid (show (TT.take (k + 1)).map (·.1) = (TT.take k).map (·.1) ++ [i] by rw [List.take_add_one, hy]; simp)
            obtain ⟨Wt, hW⟩ : ∃ Wt, Wt = w6.alloc (.cells #[.int .i64 (i : Int), .int .i64 y] 43) := ⟨_, rfl⟩
            have rT : RowK Wt 43 w6.heap.size [.int .i64 (i : Int), .int .i64 y] := by subst hW; exact heap_alloc_new w6 _
            have hQ : Below w6.heap.size w6 Wt := by subst hW; exact (Below.refl _ _).alloc (Nat.le_refl _) _
            have hXt := hX.trans (hQ.mono hX.size)
            have hMt := hMap.keep (hQ.block mb hmz)
            have hlt6 := rT.lt
            have kt : ∀ V, Below Wt.heap.size Wt V → (V.cell? ⟨w.heap.size, 0, none⟩ = some (.string kind) ∧ V.cell? ⟨w.heap.size, 1, none⟩ = some (.int .i64 g0) ∧ V.cell? ⟨w.heap.size, 2, none⟩ = some (.int .i64 day)) ∧ (V.cell? ⟨w6.heap.size, 0, none⟩ = some (.int .i64 (i : Int)) ∧ V.cell? ⟨w6.heap.size, 1, none⟩ = some (.int .i64 y)) ∧ (V.cell? ⟨b, o + i * 4, none⟩ = some (.string nm) ∧ V.cell? ⟨b, o + i * 4 + 1, none⟩ = some (.string kd) ∧ V.cell? ⟨b, o + i * 4 + 2, none⟩ = some (.int .i64 gr) ∧ V.cell? ⟨b, o + i * 4 + 3, none⟩ = some (.int .i64 un)) ∧ IMX V mb ((TT.take k).map (·.1)) := fun V h => by
              have hV := hXt.trans (h.mono hXt.size)
              obtain ⟨b', o', e5, -, -, c0, c1, c2, c3⟩ := bat_cells (ksl3 _ hV) hc
              injection e5 with e5
              injection e5 with e6 e7
              subst e6 e7
              exact ⟨kk3 _ hV, ⟨(rT.below h).cell (by rfl), (rT.below h).cell (by rfl)⟩, ⟨c0, c1, c2, c3⟩, hMt.keep (h.block mb hMt.lt)⟩
            have ktk : ∀ V, Below Wt.heap.size Wt V → SlF encK V (.slice (some ⟨ub, uo, none⟩) TT.length cU) TT := fun V h => ksk _ (hXt.trans (h.mono hXt.size))
            have HY := Lib.hid hy
            have HC := Lib.hid hc
            clear hav hy hc hbs hlT hdb hy1
            go_wp2_with fail
            rw [← hW]
            clear hW r0 r1 r2 r3 u0 u1
            have hD := (Below.refl Wt.heap.size Wt).drew
            refine wp_region_held_drew (S := fun V => (V.cell? ⟨w.heap.size, 0, none⟩ = some (.string kind) ∧ V.cell? ⟨w.heap.size, 1, none⟩ = some (.int .i64 g0) ∧ V.cell? ⟨w.heap.size, 2, none⟩ = some (.int .i64 day)) ∧ (V.cell? ⟨w6.heap.size, 0, none⟩ = some (.int .i64 (i : Int)) ∧ V.cell? ⟨w6.heap.size, 1, none⟩ = some (.int .i64 y)) ∧ (V.cell? ⟨b, o + i * 4, none⟩ = some (.string nm) ∧ V.cell? ⟨b, o + i * 4 + 1, none⟩ = some (.string kd) ∧ V.cell? ⟨b, o + i * 4 + 2, none⟩ = some (.int .i64 gr) ∧ V.cell? ⟨b, o + i * 4 + 3, none⟩ = some (.int .i64 un)) ∧ IMX V mb ((TT.take k).map (·.1))) (by kernel_rfl) (kt _ hD) (fun hHeld => ?_)
            refine held_yes 0 (some 122) (.pointer (some ⟨w6.heap.size, 0, none⟩)) rfl rfl (by kernel_rfl) (by kernel_rfl) (by kernel_rfl) (fun _ _ _ h => h) rfl (fun w' hS => by obtain ⟨⟨s0, s1, s2⟩, ⟨s3, s4⟩, ⟨s5, s6, s7, s8⟩, s9⟩ := hS; have hlk := lookupI_no s9 i hni; go_simp) hHeld ?_
            try simp only [Act.put, List.setIfInBounds_toArray, List.set_cons_zero, List.set_cons_succ]
            refine held_yes 1 (some 123) (.int .i64 i) rfl rfl (by kernel_rfl) (by kernel_rfl) (by kernel_rfl) (fun _ _ _ h => h) rfl (fun w' hS => by obtain ⟨⟨s0, s1, s2⟩, ⟨s3, s4⟩, ⟨s5, s6, s7, s8⟩, s9⟩ := hS; have hlk := lookupI_no s9 i hni; go_simp) hHeld ?_
            try simp only [Act.put, List.setIfInBounds_toArray, List.set_cons_zero, List.set_cons_succ]
            refine held_yes 2 (some 124) (.bool false) rfl rfl (by kernel_rfl) (by kernel_rfl) (by kernel_rfl) (fun _ _ _ h => h) rfl (fun w' hS => by obtain ⟨⟨s0, s1, s2⟩, ⟨s3, s4⟩, ⟨s5, s6, s7, s8⟩, s9⟩ := hS; have hlk := lookupI_no s9 i hni; go_simp) hHeld ?_
            try simp only [Act.put, List.setIfInBounds_toArray, List.set_cons_zero, List.set_cons_succ]
            refine held_yes 3 (some 125) (.bool false) rfl rfl (by kernel_rfl) (by kernel_rfl) (by kernel_rfl) (fun _ _ _ h => h) rfl (fun w' hS => by obtain ⟨⟨s0, s1, s2⟩, ⟨s3, s4⟩, ⟨s5, s6, s7, s8⟩, s9⟩ := hS; have hlk := lookupI_no s9 i hni; go_simp) hHeld ?_
            try simp only [Act.put, List.setIfInBounds_toArray, List.set_cons_zero, List.set_cons_succ]
            refine held_yes 4 (some 126) (.pointer (some ⟨w6.heap.size, 0, none⟩)) rfl rfl (by kernel_rfl) (by kernel_rfl) (by kernel_rfl) (fun _ _ _ h => h) rfl (fun w' hS => by obtain ⟨⟨s0, s1, s2⟩, ⟨s3, s4⟩, ⟨s5, s6, s7, s8⟩, s9⟩ := hS; have hlk := lookupI_no s9 i hni; go_simp) hHeld ?_
            try simp only [Act.put, List.setIfInBounds_toArray, List.set_cons_zero, List.set_cons_succ]
            refine held_yes 5 (some 127) (.int .i64 i) rfl rfl (by kernel_rfl) (by kernel_rfl) (by kernel_rfl) (fun _ _ _ h => h) rfl (fun w' hS => by obtain ⟨⟨s0, s1, s2⟩, ⟨s3, s4⟩, ⟨s5, s6, s7, s8⟩, s9⟩ := hS; have hlk := lookupI_no s9 i hni; go_simp) hHeld ?_
            try simp only [Act.put, List.setIfInBounds_toArray, List.set_cons_zero, List.set_cons_succ]
            refine held_yes 6 (some 128) (.slice (some ⟨b, o, none⟩) l.length cap) rfl rfl (by kernel_rfl) (by kernel_rfl) (by kernel_rfl) (fun _ _ _ h => h) rfl (fun w' hS => by obtain ⟨⟨s0, s1, s2⟩, ⟨s3, s4⟩, ⟨s5, s6, s7, s8⟩, s9⟩ := hS; have hlk := lookupI_no s9 i hni; go_simp) hHeld ?_
            try simp only [Act.put, List.setIfInBounds_toArray, List.set_cons_zero, List.set_cons_succ]
            refine held_yes 7 (some 129) (.int .i64 l.length) rfl rfl (by kernel_rfl) (by kernel_rfl) (by kernel_rfl) (fun _ _ _ h => h) rfl (fun w' hS => by obtain ⟨⟨s0, s1, s2⟩, ⟨s3, s4⟩, ⟨s5, s6, s7, s8⟩, s9⟩ := hS; have hlk := lookupI_no s9 i hni; go_simp) hHeld ?_
            try simp only [Act.put, List.setIfInBounds_toArray, List.set_cons_zero, List.set_cons_succ]
            refine held_yes 8 (some 130) (.bool false) rfl rfl (by kernel_rfl) (by kernel_rfl) (by kernel_rfl) (fun _ _ _ h => h) rfl (fun w' hS => by obtain ⟨⟨s0, s1, s2⟩, ⟨s3, s4⟩, ⟨s5, s6, s7, s8⟩, s9⟩ := hS; have hlk := lookupI_no s9 i hni; go_simp) hHeld ?_
            try simp only [Act.put, List.setIfInBounds_toArray, List.set_cons_zero, List.set_cons_succ]
            refine held_yes 9 (some 131) (.bool false) rfl rfl (by kernel_rfl) (by kernel_rfl) (by kernel_rfl) (fun _ _ _ h => h) rfl (fun w' hS => by obtain ⟨⟨s0, s1, s2⟩, ⟨s3, s4⟩, ⟨s5, s6, s7, s8⟩, s9⟩ := hS; have hlk := lookupI_no s9 i hni; go_simp) hHeld ?_
            try simp only [Act.put, List.setIfInBounds_toArray, List.set_cons_zero, List.set_cons_succ]
            refine held_yes 10 (some 132) (.bool false) rfl rfl (by kernel_rfl) (by kernel_rfl) (by kernel_rfl) (fun _ _ _ h => h) rfl (fun w' hS => by obtain ⟨⟨s0, s1, s2⟩, ⟨s3, s4⟩, ⟨s5, s6, s7, s8⟩, s9⟩ := hS; have hlk := lookupI_no s9 i hni; go_simp) hHeld ?_
            try simp only [Act.put, List.setIfInBounds_toArray, List.set_cons_zero, List.set_cons_succ]
            refine held_yes 11 (some 133) (.map (some mb)) rfl rfl (by kernel_rfl) (by kernel_rfl) (by kernel_rfl) (fun _ _ _ h => h) rfl (fun w' hS => by obtain ⟨⟨s0, s1, s2⟩, ⟨s3, s4⟩, ⟨s5, s6, s7, s8⟩, s9⟩ := hS; have hlk := lookupI_no s9 i hni; go_simp) hHeld ?_
            try simp only [Act.put, List.setIfInBounds_toArray, List.set_cons_zero, List.set_cons_succ]
            refine held_yes 12 (some 134) (.pointer (some ⟨w6.heap.size, 0, none⟩)) rfl rfl (by kernel_rfl) (by kernel_rfl) (by kernel_rfl) (fun _ _ _ h => h) rfl (fun w' hS => by obtain ⟨⟨s0, s1, s2⟩, ⟨s3, s4⟩, ⟨s5, s6, s7, s8⟩, s9⟩ := hS; have hlk := lookupI_no s9 i hni; go_simp) hHeld ?_
            try simp only [Act.put, List.setIfInBounds_toArray, List.set_cons_zero, List.set_cons_succ]
            refine held_yes 13 (some 135) (.int .i64 i) rfl rfl (by kernel_rfl) (by kernel_rfl) (by kernel_rfl) (fun _ _ _ h => h) rfl (fun w' hS => by obtain ⟨⟨s0, s1, s2⟩, ⟨s3, s4⟩, ⟨s5, s6, s7, s8⟩, s9⟩ := hS; have hlk := lookupI_no s9 i hni; go_simp) hHeld ?_
            try simp only [Act.put, List.setIfInBounds_toArray, List.set_cons_zero, List.set_cons_succ]
            refine held_yes 14 (some 136) (.bool false) rfl rfl (by kernel_rfl) (by kernel_rfl) (by kernel_rfl) (fun _ _ _ h => h) rfl (fun w' hS => by obtain ⟨⟨s0, s1, s2⟩, ⟨s3, s4⟩, ⟨s5, s6, s7, s8⟩, s9⟩ := hS; have hlk := lookupI_no s9 i hni; go_simp) hHeld ?_
            try simp only [Act.put, List.setIfInBounds_toArray, List.set_cons_zero, List.set_cons_succ]
            refine held_yes 15 (some 137) (.bool false) rfl rfl (by kernel_rfl) (by kernel_rfl) (by kernel_rfl) (fun _ _ _ h => h) rfl (fun w' hS => by obtain ⟨⟨s0, s1, s2⟩, ⟨s3, s4⟩, ⟨s5, s6, s7, s8⟩, s9⟩ := hS; have hlk := lookupI_no s9 i hni; go_simp) hHeld ?_
            try simp only [Act.put, List.setIfInBounds_toArray, List.set_cons_zero, List.set_cons_succ]
            refine held_yes 16 (some 138) (.bool false) rfl rfl (by kernel_rfl) (by kernel_rfl) (by kernel_rfl) (fun _ _ _ h => h) rfl (fun w' hS => by obtain ⟨⟨s0, s1, s2⟩, ⟨s3, s4⟩, ⟨s5, s6, s7, s8⟩, s9⟩ := hS; have hlk := lookupI_no s9 i hni; go_simp) hHeld ?_
            try simp only [Act.put, List.setIfInBounds_toArray, List.set_cons_zero, List.set_cons_succ]
            refine held_yes 17 (some 139) (.pointer (some ⟨w6.heap.size, 1, none⟩)) rfl rfl (by kernel_rfl) (by kernel_rfl) (by kernel_rfl) (fun _ _ _ h => h) rfl (fun w' hS => by obtain ⟨⟨s0, s1, s2⟩, ⟨s3, s4⟩, ⟨s5, s6, s7, s8⟩, s9⟩ := hS; have hlk := lookupI_no s9 i hni; go_simp) hHeld ?_
            try simp only [Act.put, List.setIfInBounds_toArray, List.set_cons_zero, List.set_cons_succ]
            refine held_yes 18 (some 140) (.int .i64 y) rfl rfl (by kernel_rfl) (by kernel_rfl) (by kernel_rfl) (fun _ _ _ h => h) rfl (fun w' hS => by obtain ⟨⟨s0, s1, s2⟩, ⟨s3, s4⟩, ⟨s5, s6, s7, s8⟩, s9⟩ := hS; have hlk := lookupI_no s9 i hni; go_simp) hHeld ?_
            try simp only [Act.put, List.setIfInBounds_toArray, List.set_cons_zero, List.set_cons_succ]
            refine held_yes 19 (some 141) (.bool false) rfl rfl (by kernel_rfl) (by kernel_rfl) (by kernel_rfl) (fun _ _ _ h => h) rfl (fun w' hS => by obtain ⟨⟨s0, s1, s2⟩, ⟨s3, s4⟩, ⟨s5, s6, s7, s8⟩, s9⟩ := hS; have hlk := lookupI_no s9 i hni; go_simp) hHeld ?_
            try simp only [Act.put, List.setIfInBounds_toArray, List.set_cons_zero, List.set_cons_succ]
            refine held_yes 20 (some 142) (.bool false) rfl rfl (by kernel_rfl) (by kernel_rfl) (by kernel_rfl) (fun _ _ _ h => h) rfl (fun w' hS => by obtain ⟨⟨s0, s1, s2⟩, ⟨s3, s4⟩, ⟨s5, s6, s7, s8⟩, s9⟩ := hS; have hlk := lookupI_no s9 i hni; go_simp) hHeld ?_
            try simp only [Act.put, List.setIfInBounds_toArray, List.set_cons_zero, List.set_cons_succ]
            refine held_yes 21 (some 143) (.bool false) rfl rfl (by kernel_rfl) (by kernel_rfl) (by kernel_rfl) (fun _ _ _ h => h) rfl (fun w' hS => by obtain ⟨⟨s0, s1, s2⟩, ⟨s3, s4⟩, ⟨s5, s6, s7, s8⟩, s9⟩ := hS; have hlk := lookupI_no s9 i hni; go_simp) hHeld ?_
            try simp only [Act.put, List.setIfInBounds_toArray, List.set_cons_zero, List.set_cons_succ]
            refine held_yes 22 (some 144) (.pointer (some ⟨w6.heap.size, 1, none⟩)) rfl rfl (by kernel_rfl) (by kernel_rfl) (by kernel_rfl) (fun _ _ _ h => h) rfl (fun w' hS => by obtain ⟨⟨s0, s1, s2⟩, ⟨s3, s4⟩, ⟨s5, s6, s7, s8⟩, s9⟩ := hS; have hlk := lookupI_no s9 i hni; go_simp) hHeld ?_
            try simp only [Act.put, List.setIfInBounds_toArray, List.set_cons_zero, List.set_cons_succ]
            refine held_yes 23 (some 145) (.int .i64 y) rfl rfl (by kernel_rfl) (by kernel_rfl) (by kernel_rfl) (fun _ _ _ h => h) rfl (fun w' hS => by obtain ⟨⟨s0, s1, s2⟩, ⟨s3, s4⟩, ⟨s5, s6, s7, s8⟩, s9⟩ := hS; have hlk := lookupI_no s9 i hni; go_simp) hHeld ?_
            try simp only [Act.put, List.setIfInBounds_toArray, List.set_cons_zero, List.set_cons_succ]
            refine held_yes 24 (some 146) (.slice (some ⟨b, o, none⟩) l.length cap) rfl rfl (by kernel_rfl) (by kernel_rfl) (by kernel_rfl) (fun _ _ _ h => h) rfl (fun w' hS => by obtain ⟨⟨s0, s1, s2⟩, ⟨s3, s4⟩, ⟨s5, s6, s7, s8⟩, s9⟩ := hS; have hlk := lookupI_no s9 i hni; go_simp) hHeld ?_
            try simp only [Act.put, List.setIfInBounds_toArray, List.set_cons_zero, List.set_cons_succ]
            refine held_yes 25 (some 147) (.pointer (some ⟨w6.heap.size, 0, none⟩)) rfl rfl (by kernel_rfl) (by kernel_rfl) (by kernel_rfl) (fun _ _ _ h => h) rfl (fun w' hS => by obtain ⟨⟨s0, s1, s2⟩, ⟨s3, s4⟩, ⟨s5, s6, s7, s8⟩, s9⟩ := hS; have hlk := lookupI_no s9 i hni; go_simp) hHeld ?_
            try simp only [Act.put, List.setIfInBounds_toArray, List.set_cons_zero, List.set_cons_succ]
            refine held_yes 26 (some 148) (.int .i64 i) rfl rfl (by kernel_rfl) (by kernel_rfl) (by kernel_rfl) (fun _ _ _ h => h) rfl (fun w' hS => by obtain ⟨⟨s0, s1, s2⟩, ⟨s3, s4⟩, ⟨s5, s6, s7, s8⟩, s9⟩ := hS; have hlk := lookupI_no s9 i hni; go_simp) hHeld ?_
            try simp only [Act.put, List.setIfInBounds_toArray, List.set_cons_zero, List.set_cons_succ]
            refine held_yes 27 (some 149) (.pointer (some ⟨b, o + i * 4, none⟩)) rfl rfl (by kernel_rfl) (by kernel_rfl) (by kernel_rfl) (fun _ _ _ h => h) rfl (fun w' hS => by obtain ⟨⟨s0, s1, s2⟩, ⟨s3, s4⟩, ⟨s5, s6, s7, s8⟩, s9⟩ := hS; have hlk := lookupI_no s9 i hni; go_simp) hHeld ?_
            try simp only [Act.put, List.setIfInBounds_toArray, List.set_cons_zero, List.set_cons_succ]
            refine held_yes 28 (some 150) (.pointer (some ⟨b, o + i * 4 + 2, none⟩)) rfl rfl (by kernel_rfl) (by kernel_rfl) (by kernel_rfl) (fun _ _ _ h => h) rfl (fun w' hS => by obtain ⟨⟨s0, s1, s2⟩, ⟨s3, s4⟩, ⟨s5, s6, s7, s8⟩, s9⟩ := hS; have hlk := lookupI_no s9 i hni; go_simp) hHeld ?_
            try simp only [Act.put, List.setIfInBounds_toArray, List.set_cons_zero, List.set_cons_succ]
            refine held_yes 29 (some 151) (.int .i64 gr) rfl rfl (by kernel_rfl) (by kernel_rfl) (by kernel_rfl) (fun _ _ _ h => h) rfl (fun w' hS => by obtain ⟨⟨s0, s1, s2⟩, ⟨s3, s4⟩, ⟨s5, s6, s7, s8⟩, s9⟩ := hS; have hlk := lookupI_no s9 i hni; go_simp) hHeld ?_
            try simp only [Act.put, List.setIfInBounds_toArray, List.set_cons_zero, List.set_cons_succ]
            refine held_yes 30 (some 152) (.bool false) rfl rfl (by kernel_rfl) (by kernel_rfl) (by kernel_rfl) (fun _ _ _ h => h) rfl (fun w' hS => by obtain ⟨⟨s0, s1, s2⟩, ⟨s3, s4⟩, ⟨s5, s6, s7, s8⟩, s9⟩ := hS; have hlk := lookupI_no s9 i hni; go_simp) hHeld ?_
            try simp only [Act.put, List.setIfInBounds_toArray, List.set_cons_zero, List.set_cons_succ]
            refine held_yes 31 (some 153) (.bool false) rfl rfl (by kernel_rfl) (by kernel_rfl) (by kernel_rfl) (fun _ _ _ h => h) rfl (fun w' hS => by obtain ⟨⟨s0, s1, s2⟩, ⟨s3, s4⟩, ⟨s5, s6, s7, s8⟩, s9⟩ := hS; have hlk := lookupI_no s9 i hni; go_simp) hHeld ?_
            try simp only [Act.put, List.setIfInBounds_toArray, List.set_cons_zero, List.set_cons_succ]
            refine held_yes 32 (some 154) (.bool false) rfl rfl (by kernel_rfl) (by kernel_rfl) (by kernel_rfl) (fun _ _ _ h => h) rfl (fun w' hS => by obtain ⟨⟨s0, s1, s2⟩, ⟨s3, s4⟩, ⟨s5, s6, s7, s8⟩, s9⟩ := hS; have hlk := lookupI_no s9 i hni; go_simp) hHeld ?_
            try simp only [Act.put, List.setIfInBounds_toArray, List.set_cons_zero, List.set_cons_succ]
            refine held_yes 33 (some 155) (.slice (some ⟨b, o, none⟩) l.length cap) rfl rfl (by kernel_rfl) (by kernel_rfl) (by kernel_rfl) (fun _ _ _ h => h) rfl (fun w' hS => by obtain ⟨⟨s0, s1, s2⟩, ⟨s3, s4⟩, ⟨s5, s6, s7, s8⟩, s9⟩ := hS; have hlk := lookupI_no s9 i hni; go_simp) hHeld ?_
            try simp only [Act.put, List.setIfInBounds_toArray, List.set_cons_zero, List.set_cons_succ]
            refine held_yes 34 (some 156) (.pointer (some ⟨w6.heap.size, 0, none⟩)) rfl rfl (by kernel_rfl) (by kernel_rfl) (by kernel_rfl) (fun _ _ _ h => h) rfl (fun w' hS => by obtain ⟨⟨s0, s1, s2⟩, ⟨s3, s4⟩, ⟨s5, s6, s7, s8⟩, s9⟩ := hS; have hlk := lookupI_no s9 i hni; go_simp) hHeld ?_
            try simp only [Act.put, List.setIfInBounds_toArray, List.set_cons_zero, List.set_cons_succ]
            refine held_yes 35 (some 157) (.int .i64 i) rfl rfl (by kernel_rfl) (by kernel_rfl) (by kernel_rfl) (fun _ _ _ h => h) rfl (fun w' hS => by obtain ⟨⟨s0, s1, s2⟩, ⟨s3, s4⟩, ⟨s5, s6, s7, s8⟩, s9⟩ := hS; have hlk := lookupI_no s9 i hni; go_simp) hHeld ?_
            try simp only [Act.put, List.setIfInBounds_toArray, List.set_cons_zero, List.set_cons_succ]
            refine held_yes 36 (some 158) (.pointer (some ⟨b, o + i * 4, none⟩)) rfl rfl (by kernel_rfl) (by kernel_rfl) (by kernel_rfl) (fun _ _ _ h => h) rfl (fun w' hS => by obtain ⟨⟨s0, s1, s2⟩, ⟨s3, s4⟩, ⟨s5, s6, s7, s8⟩, s9⟩ := hS; have hlk := lookupI_no s9 i hni; go_simp) hHeld ?_
            try simp only [Act.put, List.setIfInBounds_toArray, List.set_cons_zero, List.set_cons_succ]
            refine held_yes 37 (some 159) (.pointer (some ⟨b, o + i * 4 + 1, none⟩)) rfl rfl (by kernel_rfl) (by kernel_rfl) (by kernel_rfl) (fun _ _ _ h => h) rfl (fun w' hS => by obtain ⟨⟨s0, s1, s2⟩, ⟨s3, s4⟩, ⟨s5, s6, s7, s8⟩, s9⟩ := hS; have hlk := lookupI_no s9 i hni; go_simp) hHeld ?_
            try simp only [Act.put, List.setIfInBounds_toArray, List.set_cons_zero, List.set_cons_succ]
            refine held_yes 38 (some 160) (.string kd) rfl rfl (by kernel_rfl) (by kernel_rfl) (by kernel_rfl) (fun _ _ _ h => h) rfl (fun w' hS => by obtain ⟨⟨s0, s1, s2⟩, ⟨s3, s4⟩, ⟨s5, s6, s7, s8⟩, s9⟩ := hS; have hlk := lookupI_no s9 i hni; go_simp) hHeld ?_
            try simp only [Act.put, List.setIfInBounds_toArray, List.set_cons_zero, List.set_cons_succ]
            refine held_yes 39 (some 161) (.pointer (some ⟨w.heap.size, 0, none⟩)) rfl rfl (by kernel_rfl) (by kernel_rfl) (by kernel_rfl) (fun _ _ _ h => h) rfl (fun w' hS => by obtain ⟨⟨s0, s1, s2⟩, ⟨s3, s4⟩, ⟨s5, s6, s7, s8⟩, s9⟩ := hS; have hlk := lookupI_no s9 i hni; go_simp) hHeld ?_
            try simp only [Act.put, List.setIfInBounds_toArray, List.set_cons_zero, List.set_cons_succ]
            refine held_yes 40 (some 162) (.string kind) rfl rfl (by kernel_rfl) (by kernel_rfl) (by kernel_rfl) (fun _ _ _ h => h) rfl (fun w' hS => by obtain ⟨⟨s0, s1, s2⟩, ⟨s3, s4⟩, ⟨s5, s6, s7, s8⟩, s9⟩ := hS; have hlk := lookupI_no s9 i hni; go_simp) hHeld ?_
            try simp only [Act.put, List.setIfInBounds_toArray, List.set_cons_zero, List.set_cons_succ]
            refine held_yes 41 (some 163) (.bool false) rfl rfl (by kernel_rfl) (by kernel_rfl) (by kernel_rfl) (fun _ _ _ h => h) rfl (fun w' hS => by obtain ⟨⟨s0, s1, s2⟩, ⟨s3, s4⟩, ⟨s5, s6, s7, s8⟩, s9⟩ := hS; have hlk := lookupI_no s9 i hni; go_simp) hHeld ?_
            try simp only [Act.put, List.setIfInBounds_toArray, List.set_cons_zero, List.set_cons_succ]
            refine held_yes 42 (some 164) (.bool false) rfl rfl (by kernel_rfl) (by kernel_rfl) (by kernel_rfl) (fun _ _ _ h => h) rfl (fun w' hS => by obtain ⟨⟨s0, s1, s2⟩, ⟨s3, s4⟩, ⟨s5, s6, s7, s8⟩, s9⟩ := hS; have hlk := lookupI_no s9 i hni; go_simp) hHeld ?_
            try simp only [Act.put, List.setIfInBounds_toArray, List.set_cons_zero, List.set_cons_succ]
            refine held_yes 43 (some 165) (.bool false) rfl rfl (by kernel_rfl) (by kernel_rfl) (by kernel_rfl) (fun _ _ _ h => h) rfl (fun w' hS => by obtain ⟨⟨s0, s1, s2⟩, ⟨s3, s4⟩, ⟨s5, s6, s7, s8⟩, s9⟩ := hS; have hlk := lookupI_no s9 i hni; go_simp) hHeld ?_
            try simp only [Act.put, List.setIfInBounds_toArray, List.set_cons_zero, List.set_cons_succ]
            refine held_yes 44 (some 166) (.slice (some ⟨b, o, none⟩) l.length cap) rfl rfl (by kernel_rfl) (by kernel_rfl) (by kernel_rfl) (fun _ _ _ h => h) rfl (fun w' hS => by obtain ⟨⟨s0, s1, s2⟩, ⟨s3, s4⟩, ⟨s5, s6, s7, s8⟩, s9⟩ := hS; have hlk := lookupI_no s9 i hni; go_simp) hHeld ?_
            try simp only [Act.put, List.setIfInBounds_toArray, List.set_cons_zero, List.set_cons_succ]
            refine held_yes 45 (some 167) (.pointer (some ⟨w6.heap.size, 0, none⟩)) rfl rfl (by kernel_rfl) (by kernel_rfl) (by kernel_rfl) (fun _ _ _ h => h) rfl (fun w' hS => by obtain ⟨⟨s0, s1, s2⟩, ⟨s3, s4⟩, ⟨s5, s6, s7, s8⟩, s9⟩ := hS; have hlk := lookupI_no s9 i hni; go_simp) hHeld ?_
            try simp only [Act.put, List.setIfInBounds_toArray, List.set_cons_zero, List.set_cons_succ]
            refine held_yes 46 (some 168) (.int .i64 i) rfl rfl (by kernel_rfl) (by kernel_rfl) (by kernel_rfl) (fun _ _ _ h => h) rfl (fun w' hS => by obtain ⟨⟨s0, s1, s2⟩, ⟨s3, s4⟩, ⟨s5, s6, s7, s8⟩, s9⟩ := hS; have hlk := lookupI_no s9 i hni; go_simp) hHeld ?_
            try simp only [Act.put, List.setIfInBounds_toArray, List.set_cons_zero, List.set_cons_succ]
            refine held_yes 47 (some 169) (.pointer (some ⟨b, o + i * 4, none⟩)) rfl rfl (by kernel_rfl) (by kernel_rfl) (by kernel_rfl) (fun _ _ _ h => h) rfl (fun w' hS => by obtain ⟨⟨s0, s1, s2⟩, ⟨s3, s4⟩, ⟨s5, s6, s7, s8⟩, s9⟩ := hS; have hlk := lookupI_no s9 i hni; go_simp) hHeld ?_
            try simp only [Act.put, List.setIfInBounds_toArray, List.set_cons_zero, List.set_cons_succ]
            refine held_yes 48 (some 170) (.pointer (some ⟨b, o + i * 4 + 3, none⟩)) rfl rfl (by kernel_rfl) (by kernel_rfl) (by kernel_rfl) (fun _ _ _ h => h) rfl (fun w' hS => by obtain ⟨⟨s0, s1, s2⟩, ⟨s3, s4⟩, ⟨s5, s6, s7, s8⟩, s9⟩ := hS; have hlk := lookupI_no s9 i hni; go_simp) hHeld ?_
            try simp only [Act.put, List.setIfInBounds_toArray, List.set_cons_zero, List.set_cons_succ]
            refine held_yes 49 (some 171) (.int .i64 un) rfl rfl (by kernel_rfl) (by kernel_rfl) (by kernel_rfl) (fun _ _ _ h => h) rfl (fun w' hS => by obtain ⟨⟨s0, s1, s2⟩, ⟨s3, s4⟩, ⟨s5, s6, s7, s8⟩, s9⟩ := hS; have hlk := lookupI_no s9 i hni; go_simp) hHeld ?_
            try simp only [Act.put, List.setIfInBounds_toArray, List.set_cons_zero, List.set_cons_succ]
            refine held_yes 50 (some 172) (.pointer (some ⟨w.heap.size, 2, none⟩)) rfl rfl (by kernel_rfl) (by kernel_rfl) (by kernel_rfl) (fun _ _ _ h => h) rfl (fun w' hS => by obtain ⟨⟨s0, s1, s2⟩, ⟨s3, s4⟩, ⟨s5, s6, s7, s8⟩, s9⟩ := hS; have hlk := lookupI_no s9 i hni; go_simp) hHeld ?_
            try simp only [Act.put, List.setIfInBounds_toArray, List.set_cons_zero, List.set_cons_succ]
            refine held_yes 51 (some 173) (.int .i64 day) rfl rfl (by kernel_rfl) (by kernel_rfl) (by kernel_rfl) (fun _ _ _ h => h) rfl (fun w' hS => by obtain ⟨⟨s0, s1, s2⟩, ⟨s3, s4⟩, ⟨s5, s6, s7, s8⟩, s9⟩ := hS; have hlk := lookupI_no s9 i hni; go_simp) hHeld ?_
            try simp only [Act.put, List.setIfInBounds_toArray, List.set_cons_zero, List.set_cons_succ]
            refine held_yes 52 (some 174) (.bool false) rfl rfl (by kernel_rfl) (by kernel_rfl) (by kernel_rfl) (fun _ _ _ h => h) rfl (fun w' hS => by obtain ⟨⟨s0, s1, s2⟩, ⟨s3, s4⟩, ⟨s5, s6, s7, s8⟩, s9⟩ := hS; have hlk := lookupI_no s9 i hni; go_simp) hHeld ?_
            try simp only [Act.put, List.setIfInBounds_toArray, List.set_cons_zero, List.set_cons_succ]
            refine held_yes 53 (some 175) (.bool false) rfl rfl (by kernel_rfl) (by kernel_rfl) (by kernel_rfl) (fun _ _ _ h => h) rfl (fun w' hS => by obtain ⟨⟨s0, s1, s2⟩, ⟨s3, s4⟩, ⟨s5, s6, s7, s8⟩, s9⟩ := hS; have hlk := lookupI_no s9 i hni; go_simp) hHeld ?_
            try simp only [Act.put, List.setIfInBounds_toArray, List.set_cons_zero, List.set_cons_succ]
            refine wpAnyH_done (by kernel_rfl) ?_ _
            clear hHeld
            go_wp2_with fail
            have hD2 := hD.drew
            by_cases hk1 : k + 1 < TT.length
            · have hkl : decide ((k : Int) < (TT.length : Int) - 1) = true := decide_eq_true (by omega)
              have hyg : (y != gr) = false := by
                have h1 := HINV.out.most k _ hk1 HY.out
                rw [gramsOf_at HC.out] at h1
                dsimp only at h1
                simp [h1]
              rcases Nat.eq_zero_or_pos k with hk0 | hk0
              · have hkp : decide ((0 : Int) < (k : Int)) = false := decide_eq_false (by omega)
                have hkp2 : decide (0 < k) = false := decide_eq_false (by omega)
                clear hk0
                have kt2 : ∀ V, Below Wt.heap.size Wt V → (V.cell? ⟨w.heap.size, 0, none⟩ = some (.string kind) ∧ V.cell? ⟨w.heap.size, 1, none⟩ = some (.int .i64 g0) ∧ V.cell? ⟨w.heap.size, 2, none⟩ = some (.int .i64 day)) ∧ (V.cell? ⟨w6.heap.size, 0, none⟩ = some (.int .i64 (i : Int)) ∧ V.cell? ⟨w6.heap.size, 1, none⟩ = some (.int .i64 y)) ∧ (V.cell? ⟨b, o + i * 4, none⟩ = some (.string nm) ∧ V.cell? ⟨b, o + i * 4 + 1, none⟩ = some (.string kd) ∧ V.cell? ⟨b, o + i * 4 + 2, none⟩ = some (.int .i64 gr) ∧ V.cell? ⟨b, o + i * 4 + 3, none⟩ = some (.int .i64 un)) := fun V h => ⟨(kt V h).1, (kt V h).2.1, (kt V h).2.2.1⟩
                as_aux_lemma =>
                refine wp_region_held_drew (S := fun V => (V.cell? ⟨w.heap.size, 0, none⟩ = some (.string kind) ∧ V.cell? ⟨w.heap.size, 1, none⟩ = some (.int .i64 g0) ∧ V.cell? ⟨w.heap.size, 2, none⟩ = some (.int .i64 day)) ∧ (V.cell? ⟨w6.heap.size, 0, none⟩ = some (.int .i64 (i : Int)) ∧ V.cell? ⟨w6.heap.size, 1, none⟩ = some (.int .i64 y)) ∧ (V.cell? ⟨b, o + i * 4, none⟩ = some (.string nm) ∧ V.cell? ⟨b, o + i * 4 + 1, none⟩ = some (.string kd) ∧ V.cell? ⟨b, o + i * 4 + 2, none⟩ = some (.int .i64 gr) ∧ V.cell? ⟨b, o + i * 4 + 3, none⟩ = some (.int .i64 un))) (by kernel_rfl) (kt2 _ hD2) (fun hHeld => ?_)
                refine held_yes 0 (some 176) (.int .i64 k) rfl rfl (by kernel_rfl) (by kernel_rfl) (by kernel_rfl) (fun _ _ _ h => h) rfl (fun w' hS => by obtain ⟨⟨s0, s1, s2⟩, ⟨s3, s4⟩, s5, s6, s7, s8⟩ := hS; go_simp) hHeld ?_
                try simp only [Act.put, List.setIfInBounds_toArray, List.set_cons_zero, List.set_cons_succ]
                refine held_yes 1 (some 177) (.slice (some ⟨ub, uo, none⟩) TT.length cU) rfl rfl (by kernel_rfl) (by kernel_rfl) (by kernel_rfl) (fun _ _ _ h => h) rfl (fun w' hS => by obtain ⟨⟨s0, s1, s2⟩, ⟨s3, s4⟩, s5, s6, s7, s8⟩ := hS; go_simp) hHeld ?_
                try simp only [Act.put, List.setIfInBounds_toArray, List.set_cons_zero, List.set_cons_succ]
                refine held_yes 2 (some 178) (.int .i64 TT.length) rfl rfl (by kernel_rfl) (by kernel_rfl) (by kernel_rfl) (fun _ _ _ h => h) rfl (fun w' hS => by obtain ⟨⟨s0, s1, s2⟩, ⟨s3, s4⟩, s5, s6, s7, s8⟩ := hS; go_simp) hHeld ?_
                try simp only [Act.put, List.setIfInBounds_toArray, List.set_cons_zero, List.set_cons_succ]
                refine held_yes 3 (some 179) (.int .i64 (TT.length - 1)) rfl rfl (by kernel_rfl) (by kernel_rfl) (by kernel_rfl) (fun _ _ _ h => h) rfl (fun w' hS => by obtain ⟨⟨s0, s1, s2⟩, ⟨s3, s4⟩, s5, s6, s7, s8⟩ := hS; go_simp) hHeld ?_
                try simp only [Act.put, List.setIfInBounds_toArray, List.set_cons_zero, List.set_cons_succ]
                refine held_yes 4 (some 180) (.bool true) rfl rfl (by kernel_rfl) (by kernel_rfl) (by kernel_rfl) (fun _ _ _ h => h) rfl (fun w' hS => by obtain ⟨⟨s0, s1, s2⟩, ⟨s3, s4⟩, s5, s6, s7, s8⟩ := hS; go_simp) hHeld ?_
                try simp only [Act.put, List.setIfInBounds_toArray, List.set_cons_zero, List.set_cons_succ]
                refine held_yes 5 (some 181) (.bool true) rfl rfl (by kernel_rfl) (by kernel_rfl) (by kernel_rfl) (fun _ _ _ h => h) rfl (fun w' hS => by obtain ⟨⟨s0, s1, s2⟩, ⟨s3, s4⟩, s5, s6, s7, s8⟩ := hS; go_simp) hHeld ?_
                try simp only [Act.put, List.setIfInBounds_toArray, List.set_cons_zero, List.set_cons_succ]
                refine held_yes 6 (some 182) (.pointer (some ⟨w6.heap.size, 1, none⟩)) rfl rfl (by kernel_rfl) (by kernel_rfl) (by kernel_rfl) (fun _ _ _ h => h) rfl (fun w' hS => by obtain ⟨⟨s0, s1, s2⟩, ⟨s3, s4⟩, s5, s6, s7, s8⟩ := hS; go_simp) hHeld ?_
                try simp only [Act.put, List.setIfInBounds_toArray, List.set_cons_zero, List.set_cons_succ]
                refine held_yes 7 (some 183) (.int .i64 y) rfl rfl (by kernel_rfl) (by kernel_rfl) (by kernel_rfl) (fun _ _ _ h => h) rfl (fun w' hS => by obtain ⟨⟨s0, s1, s2⟩, ⟨s3, s4⟩, s5, s6, s7, s8⟩ := hS; go_simp) hHeld ?_
                try simp only [Act.put, List.setIfInBounds_toArray, List.set_cons_zero, List.set_cons_succ]
                refine held_yes 8 (some 184) (.slice (some ⟨b, o, none⟩) l.length cap) rfl rfl (by kernel_rfl) (by kernel_rfl) (by kernel_rfl) (fun _ _ _ h => h) rfl (fun w' hS => by obtain ⟨⟨s0, s1, s2⟩, ⟨s3, s4⟩, s5, s6, s7, s8⟩ := hS; go_simp) hHeld ?_
                try simp only [Act.put, List.setIfInBounds_toArray, List.set_cons_zero, List.set_cons_succ]
                refine held_yes 9 (some 185) (.pointer (some ⟨w6.heap.size, 0, none⟩)) rfl rfl (by kernel_rfl) (by kernel_rfl) (by kernel_rfl) (fun _ _ _ h => h) rfl (fun w' hS => by obtain ⟨⟨s0, s1, s2⟩, ⟨s3, s4⟩, s5, s6, s7, s8⟩ := hS; go_simp) hHeld ?_
                try simp only [Act.put, List.setIfInBounds_toArray, List.set_cons_zero, List.set_cons_succ]
                refine held_yes 10 (some 186) (.int .i64 i) rfl rfl (by kernel_rfl) (by kernel_rfl) (by kernel_rfl) (fun _ _ _ h => h) rfl (fun w' hS => by obtain ⟨⟨s0, s1, s2⟩, ⟨s3, s4⟩, s5, s6, s7, s8⟩ := hS; go_simp) hHeld ?_
                try simp only [Act.put, List.setIfInBounds_toArray, List.set_cons_zero, List.set_cons_succ]
                refine held_yes 11 (some 187) (.pointer (some ⟨b, o + i * 4, none⟩)) rfl rfl (by kernel_rfl) (by kernel_rfl) (by kernel_rfl) (fun _ _ _ h => h) rfl (fun w' hS => by obtain ⟨⟨s0, s1, s2⟩, ⟨s3, s4⟩, s5, s6, s7, s8⟩ := hS; go_simp) hHeld ?_
                try simp only [Act.put, List.setIfInBounds_toArray, List.set_cons_zero, List.set_cons_succ]
                refine held_yes 12 (some 188) (.pointer (some ⟨b, o + i * 4 + 2, none⟩)) rfl rfl (by kernel_rfl) (by kernel_rfl) (by kernel_rfl) (fun _ _ _ h => h) rfl (fun w' hS => by obtain ⟨⟨s0, s1, s2⟩, ⟨s3, s4⟩, s5, s6, s7, s8⟩ := hS; go_simp) hHeld ?_
                try simp only [Act.put, List.setIfInBounds_toArray, List.set_cons_zero, List.set_cons_succ]
                refine held_yes 13 (some 189) (.int .i64 gr) rfl rfl (by kernel_rfl) (by kernel_rfl) (by kernel_rfl) (fun _ _ _ h => h) rfl (fun w' hS => by obtain ⟨⟨s0, s1, s2⟩, ⟨s3, s4⟩, s5, s6, s7, s8⟩ := hS; go_simp) hHeld ?_
                try simp only [Act.put, List.setIfInBounds_toArray, List.set_cons_zero, List.set_cons_succ]
                refine held_yes 14 (some 190) (.bool false) rfl rfl (by kernel_rfl) (by kernel_rfl) (by kernel_rfl) (fun _ _ _ h => h) rfl (fun w' hS => by obtain ⟨⟨s0, s1, s2⟩, ⟨s3, s4⟩, s5, s6, s7, s8⟩ := hS; go_simp) hHeld ?_
                try simp only [Act.put, List.setIfInBounds_toArray, List.set_cons_zero, List.set_cons_succ]
                refine held_yes 15 (some 191) (.bool false) rfl rfl (by kernel_rfl) (by kernel_rfl) (by kernel_rfl) (fun _ _ _ h => h) rfl (fun w' hS => by obtain ⟨⟨s0, s1, s2⟩, ⟨s3, s4⟩, s5, s6, s7, s8⟩ := hS; go_simp) hHeld ?_
                try simp only [Act.put, List.setIfInBounds_toArray, List.set_cons_zero, List.set_cons_succ]
                refine held_yes 16 (some 192) (.bool false) rfl rfl (by kernel_rfl) (by kernel_rfl) (by kernel_rfl) (fun _ _ _ h => h) rfl (fun w' hS => by obtain ⟨⟨s0, s1, s2⟩, ⟨s3, s4⟩, s5, s6, s7, s8⟩ := hS; go_simp) hHeld ?_
                try simp only [Act.put, List.setIfInBounds_toArray, List.set_cons_zero, List.set_cons_succ]
                refine held_yes 17 (some 193) (.int .i64 k) rfl rfl (by kernel_rfl) (by kernel_rfl) (by kernel_rfl) (fun _ _ _ h => h) rfl (fun w' hS => by obtain ⟨⟨s0, s1, s2⟩, ⟨s3, s4⟩, s5, s6, s7, s8⟩ := hS; go_simp) hHeld ?_
                try simp only [Act.put, List.setIfInBounds_toArray, List.set_cons_zero, List.set_cons_succ]
                refine held_yes 18 (some 194) (.bool false) rfl rfl (by kernel_rfl) (by kernel_rfl) (by kernel_rfl) (fun _ _ _ h => h) rfl (fun w' hS => by obtain ⟨⟨s0, s1, s2⟩, ⟨s3, s4⟩, s5, s6, s7, s8⟩ := hS; go_simp) hHeld ?_
                try simp only [Act.put, List.setIfInBounds_toArray, List.set_cons_zero, List.set_cons_succ]
                refine held_yes 19 (some 195) (.bool false) rfl rfl (by kernel_rfl) (by kernel_rfl) (by kernel_rfl) (fun _ _ _ h => h) rfl (fun w' hS => by obtain ⟨⟨s0, s1, s2⟩, ⟨s3, s4⟩, s5, s6, s7, s8⟩ := hS; go_simp) hHeld ?_
                try simp only [Act.put, List.setIfInBounds_toArray, List.set_cons_zero, List.set_cons_succ]
                refine held_no 20 (some 196) rfl rfl (by kernel_rfl) (by kernel_rfl) (by kernel_rfl) (fun _ _ _ h => h) rfl hHeld ?_
                try simp only [Act.put, List.setIfInBounds_toArray, List.set_cons_zero, List.set_cons_succ]
                refine held_no 21 (some 197) rfl rfl (by kernel_rfl) (by kernel_rfl) (by kernel_rfl) (fun _ _ _ h => h) rfl hHeld ?_
                try simp only [Act.put, List.setIfInBounds_toArray, List.set_cons_zero, List.set_cons_succ]
                refine held_no 22 (some 198) rfl rfl (by kernel_rfl) (by kernel_rfl) (by kernel_rfl) (fun _ _ _ h => h) rfl hHeld ?_
                try simp only [Act.put, List.setIfInBounds_toArray, List.set_cons_zero, List.set_cons_succ]
                refine held_no 23 (some 199) rfl rfl (by kernel_rfl) (by kernel_rfl) (by kernel_rfl) (fun _ _ _ h => h) rfl hHeld ?_
                try simp only [Act.put, List.setIfInBounds_toArray, List.set_cons_zero, List.set_cons_succ]
                refine held_no 24 (some 200) rfl rfl (by kernel_rfl) (by kernel_rfl) (by kernel_rfl) (fun _ _ _ h => h) rfl hHeld ?_
                try simp only [Act.put, List.setIfInBounds_toArray, List.set_cons_zero, List.set_cons_succ]
                refine held_no 25 (some 201) rfl rfl (by kernel_rfl) (by kernel_rfl) (by kernel_rfl) (fun _ _ _ h => h) rfl hHeld ?_
                try simp only [Act.put, List.setIfInBounds_toArray, List.set_cons_zero, List.set_cons_succ]
                refine held_no 26 (some 202) rfl rfl (by kernel_rfl) (by kernel_rfl) (by kernel_rfl) (fun _ _ _ h => h) rfl hHeld ?_
                try simp only [Act.put, List.setIfInBounds_toArray, List.set_cons_zero, List.set_cons_succ]
                refine held_no 27 (some 203) rfl rfl (by kernel_rfl) (by kernel_rfl) (by kernel_rfl) (fun _ _ _ h => h) rfl hHeld ?_
                try simp only [Act.put, List.setIfInBounds_toArray, List.set_cons_zero, List.set_cons_succ]
                refine held_no 28 (some 204) rfl rfl (by kernel_rfl) (by kernel_rfl) (by kernel_rfl) (fun _ _ _ h => h) rfl hHeld ?_
                try simp only [Act.put, List.setIfInBounds_toArray, List.set_cons_zero, List.set_cons_succ]
                refine held_no 29 (some 205) rfl rfl (by kernel_rfl) (by kernel_rfl) (by kernel_rfl) (fun _ _ _ h => h) rfl hHeld ?_
                try simp only [Act.put, List.setIfInBounds_toArray, List.set_cons_zero, List.set_cons_succ]
                refine held_no 30 (some 206) rfl rfl (by kernel_rfl) (by kernel_rfl) (by kernel_rfl) (fun _ _ _ h => h) rfl hHeld ?_
                try simp only [Act.put, List.setIfInBounds_toArray, List.set_cons_zero, List.set_cons_succ]
                refine held_no 31 (some 207) rfl rfl (by kernel_rfl) (by kernel_rfl) (by kernel_rfl) (fun _ _ _ h => h) rfl hHeld ?_
                try simp only [Act.put, List.setIfInBounds_toArray, List.set_cons_zero, List.set_cons_succ]
                refine held_no 32 (some 208) rfl rfl (by kernel_rfl) (by kernel_rfl) (by kernel_rfl) (fun _ _ _ h => h) rfl hHeld ?_
                try simp only [Act.put, List.setIfInBounds_toArray, List.set_cons_zero, List.set_cons_succ]
                refine held_no 33 (some 209) rfl rfl (by kernel_rfl) (by kernel_rfl) (by kernel_rfl) (fun _ _ _ h => h) rfl hHeld ?_
                try simp only [Act.put, List.setIfInBounds_toArray, List.set_cons_zero, List.set_cons_succ]
                refine held_no 34 (some 210) rfl rfl (by kernel_rfl) (by kernel_rfl) (by kernel_rfl) (fun _ _ _ h => h) rfl hHeld ?_
                try simp only [Act.put, List.setIfInBounds_toArray, List.set_cons_zero, List.set_cons_succ]
                refine held_no 35 (some 211) rfl rfl (by kernel_rfl) (by kernel_rfl) (by kernel_rfl) (fun _ _ _ h => h) rfl hHeld ?_
                try simp only [Act.put, List.setIfInBounds_toArray, List.set_cons_zero, List.set_cons_succ]
                refine held_no 36 (some 212) rfl rfl (by kernel_rfl) (by kernel_rfl) (by kernel_rfl) (fun _ _ _ h => h) rfl hHeld ?_
                try simp only [Act.put, List.setIfInBounds_toArray, List.set_cons_zero, List.set_cons_succ]
                refine held_yes 37 (some 213) (.bool false) rfl rfl (by kernel_rfl) (by kernel_rfl) (by kernel_rfl) (fun _ _ _ h => h) rfl (fun w' hS => by obtain ⟨⟨s0, s1, s2⟩, ⟨s3, s4⟩, s5, s6, s7, s8⟩ := hS; go_simp) hHeld ?_
                try simp only [Act.put, List.setIfInBounds_toArray, List.set_cons_zero, List.set_cons_succ]
                refine held_yes 38 (some 214) (.bool false) rfl rfl (by kernel_rfl) (by kernel_rfl) (by kernel_rfl) (fun _ _ _ h => h) rfl (fun w' hS => by obtain ⟨⟨s0, s1, s2⟩, ⟨s3, s4⟩, s5, s6, s7, s8⟩ := hS; go_simp) hHeld ?_
                try simp only [Act.put, List.setIfInBounds_toArray, List.set_cons_zero, List.set_cons_succ]
                have hX8 := hXt.trans (hD2.mono hXt.size)
                have HT8 := Lib.hid (show _ ∧ _ ∧ _ ∧ _ from ⟨(kt _ hD2).2.1.1, (kt _ hD2).2.1.2, Nat.lt_of_lt_of_le hlt6 hD2.size, (kt _ hD2).2.2.2⟩)
                generalize Wt.drew.drew = W8 at hX8 HT8 hD2 hHeld ⊢
                refine wpAnyH_done (by kernel_rfl) ?_ _
                clear hHeld
                obtain ⟨m0, m1, hgm, hMt⟩ := HT8.out
                obtain ⟨w9, hup, hM9, hg9m⟩ := updateI hMt i hni
                have hX9 := hX8.grown hg9m hX8.size (fun q hq => by injection hq with hq; omega)
                have y9 : w9.cell? ⟨w6.heap.size, 1, none⟩ = some (.int .i64 y) := (World.cell?_of_block (a := ⟨w6.heap.size, 1, none⟩) (hg9m.block _ hgm (by simp; omega))).trans m1
                have hz9 : mb < w9.heap.size := hM9.lt
                rw [← HSU.out] at hM9
                have HR := Lib.hid (And.intro hM9 (And.intro hX9 hz9))
                obtain ⟨ws1, ws2⟩ := HWS.out
                obtain ⟨wk1, wk2⟩ := HWK.out
                clear hMt hM9 hg9m hX9 hz9 m1 hgm HT8 hX8 hyg hd1 hd2 hd3 hd4 hd5 hd6 hkb hlk1 hkl
                go_wp2_with fail
                go_roundw
                case rel => exact ⟨k + 1, HKK.out, by simp, by rw [HS2.out], HR.out.1, HR.out.2.1, HR.out.2.2⟩
                case measure => exact HKM.out
              · have hkp : decide ((0 : Int) < (k : Int)) = true := decide_eq_true (by omega)
                have hkp2 : decide (0 < k) = true := decide_eq_true hk0
                obtain ⟨j, hj⟩ : ∃ j, j + 1 = k := ⟨k - 1, by omega⟩
                obtain ⟨⟨ip, yp⟩, hyp⟩ : ∃ x, TT[j]? = some x := ⟨_, List.getElem?_eq_getElem (by omega)⟩
                obtain ⟨-, havp, -, -⟩ := HINV.out.at_ _ (List.mem_of_getElem? hyp)
                dsimp only at havp
                obtain ⟨⟨nmp, kdp, grp, unp⟩, hcp⟩ := avail_some havp
                have hinc := pair_at HINV.out.inc (show j < k by omega) hyp HY.out
                rw [untilOf_at hcp, untilOf_at HC.out] at hinc
                dsimp only at hinc
                have hun : decide (un < unp) = false := decide_eq_false (by omega)
                have hwk1 : IntKind.i64.wrap ((k : Int) - 1) = (j : Int) := by rw [wrap_small (by omega)]; omega
                have hip : ip < l.length := (List.getElem?_eq_some_iff.1 hcp).1
                have hp0 : (0 : Int) ≤ ip := by omega
                have hp1 : (ip : Int) < l.length := by omega
                have hq0 : (0 : Int) ≤ j := by omega
                have hq1 : (j : Int) < TT.length := by omega
                have kt2 : ∀ V, Below Wt.heap.size Wt V → (V.cell? ⟨w.heap.size, 0, none⟩ = some (.string kind) ∧ V.cell? ⟨w.heap.size, 1, none⟩ = some (.int .i64 g0) ∧ V.cell? ⟨w.heap.size, 2, none⟩ = some (.int .i64 day)) ∧ (V.cell? ⟨w6.heap.size, 0, none⟩ = some (.int .i64 (i : Int)) ∧ V.cell? ⟨w6.heap.size, 1, none⟩ = some (.int .i64 y)) ∧ (V.cell? ⟨b, o + i * 4, none⟩ = some (.string nm) ∧ V.cell? ⟨b, o + i * 4 + 1, none⟩ = some (.string kd) ∧ V.cell? ⟨b, o + i * 4 + 2, none⟩ = some (.int .i64 gr) ∧ V.cell? ⟨b, o + i * 4 + 3, none⟩ = some (.int .i64 un)) ∧ (V.cell? ⟨ub, uo + j * 2, none⟩ = some (.int .i64 (ip : Int)) ∧ V.cell? ⟨ub, uo + j * 2 + 1, none⟩ = some (.int .i64 yp)) ∧ (V.cell? ⟨b, o + ip * 4, none⟩ = some (.string nmp) ∧ V.cell? ⟨b, o + ip * 4 + 1, none⟩ = some (.string kdp) ∧ V.cell? ⟨b, o + ip * 4 + 2, none⟩ = some (.int .i64 grp) ∧ V.cell? ⟨b, o + ip * 4 + 3, none⟩ = some (.int .i64 unp)) := fun V h => by
                  have hV := hXt.trans (h.mono hXt.size)
                  obtain ⟨b', o', e5, -, -, c0, c1, c2, c3⟩ := bat_cells (ksl3 _ hV) hcp
                  injection e5 with e5
                  injection e5 with e6 e7
                  subst e6 e7
                  obtain ⟨b', o', e5, -, -, d0, d1⟩ := tak_cells (ktk _ h) hyp
                  injection e5 with e5
                  injection e5 with e6 e7
                  subst e6 e7
                  exact ⟨(kt V h).1, (kt V h).2.1, (kt V h).2.2.1, ⟨d0, d1⟩, c0, c1, c2, c3⟩
                clear hyp havp hcp hinc hip hj
                as_aux_lemma =>
                refine wp_region_held_drew (S := fun V => (V.cell? ⟨w.heap.size, 0, none⟩ = some (.string kind) ∧ V.cell? ⟨w.heap.size, 1, none⟩ = some (.int .i64 g0) ∧ V.cell? ⟨w.heap.size, 2, none⟩ = some (.int .i64 day)) ∧ (V.cell? ⟨w6.heap.size, 0, none⟩ = some (.int .i64 (i : Int)) ∧ V.cell? ⟨w6.heap.size, 1, none⟩ = some (.int .i64 y)) ∧ (V.cell? ⟨b, o + i * 4, none⟩ = some (.string nm) ∧ V.cell? ⟨b, o + i * 4 + 1, none⟩ = some (.string kd) ∧ V.cell? ⟨b, o + i * 4 + 2, none⟩ = some (.int .i64 gr) ∧ V.cell? ⟨b, o + i * 4 + 3, none⟩ = some (.int .i64 un)) ∧ (V.cell? ⟨ub, uo + j * 2, none⟩ = some (.int .i64 (ip : Int)) ∧ V.cell? ⟨ub, uo + j * 2 + 1, none⟩ = some (.int .i64 yp)) ∧ (V.cell? ⟨b, o + ip * 4, none⟩ = some (.string nmp) ∧ V.cell? ⟨b, o + ip * 4 + 1, none⟩ = some (.string kdp) ∧ V.cell? ⟨b, o + ip * 4 + 2, none⟩ = some (.int .i64 grp) ∧ V.cell? ⟨b, o + ip * 4 + 3, none⟩ = some (.int .i64 unp))) (by kernel_rfl) (kt2 _ hD2) (fun hHeld => ?_)
                refine held_yes 0 (some 176) (.int .i64 k) rfl rfl (by kernel_rfl) (by kernel_rfl) (by kernel_rfl) (fun _ _ _ h => h) rfl (fun w' hS => by obtain ⟨⟨s0, s1, s2⟩, ⟨s3, s4⟩, ⟨s5, s6, s7, s8⟩, ⟨s9, s10⟩, s11, s12, s13, s14⟩ := hS; go_simp) hHeld ?_
                try simp only [Act.put, List.setIfInBounds_toArray, List.set_cons_zero, List.set_cons_succ]
                refine held_yes 1 (some 177) (.slice (some ⟨ub, uo, none⟩) TT.length cU) rfl rfl (by kernel_rfl) (by kernel_rfl) (by kernel_rfl) (fun _ _ _ h => h) rfl (fun w' hS => by obtain ⟨⟨s0, s1, s2⟩, ⟨s3, s4⟩, ⟨s5, s6, s7, s8⟩, ⟨s9, s10⟩, s11, s12, s13, s14⟩ := hS; go_simp) hHeld ?_
                try simp only [Act.put, List.setIfInBounds_toArray, List.set_cons_zero, List.set_cons_succ]
                refine held_yes 2 (some 178) (.int .i64 TT.length) rfl rfl (by kernel_rfl) (by kernel_rfl) (by kernel_rfl) (fun _ _ _ h => h) rfl (fun w' hS => by obtain ⟨⟨s0, s1, s2⟩, ⟨s3, s4⟩, ⟨s5, s6, s7, s8⟩, ⟨s9, s10⟩, s11, s12, s13, s14⟩ := hS; go_simp) hHeld ?_
                try simp only [Act.put, List.setIfInBounds_toArray, List.set_cons_zero, List.set_cons_succ]
                refine held_yes 3 (some 179) (.int .i64 (TT.length - 1)) rfl rfl (by kernel_rfl) (by kernel_rfl) (by kernel_rfl) (fun _ _ _ h => h) rfl (fun w' hS => by obtain ⟨⟨s0, s1, s2⟩, ⟨s3, s4⟩, ⟨s5, s6, s7, s8⟩, ⟨s9, s10⟩, s11, s12, s13, s14⟩ := hS; go_simp) hHeld ?_
                try simp only [Act.put, List.setIfInBounds_toArray, List.set_cons_zero, List.set_cons_succ]
                refine held_yes 4 (some 180) (.bool true) rfl rfl (by kernel_rfl) (by kernel_rfl) (by kernel_rfl) (fun _ _ _ h => h) rfl (fun w' hS => by obtain ⟨⟨s0, s1, s2⟩, ⟨s3, s4⟩, ⟨s5, s6, s7, s8⟩, ⟨s9, s10⟩, s11, s12, s13, s14⟩ := hS; go_simp) hHeld ?_
                try simp only [Act.put, List.setIfInBounds_toArray, List.set_cons_zero, List.set_cons_succ]
                refine held_yes 5 (some 181) (.bool true) rfl rfl (by kernel_rfl) (by kernel_rfl) (by kernel_rfl) (fun _ _ _ h => h) rfl (fun w' hS => by obtain ⟨⟨s0, s1, s2⟩, ⟨s3, s4⟩, ⟨s5, s6, s7, s8⟩, ⟨s9, s10⟩, s11, s12, s13, s14⟩ := hS; go_simp) hHeld ?_
                try simp only [Act.put, List.setIfInBounds_toArray, List.set_cons_zero, List.set_cons_succ]
                refine held_yes 6 (some 182) (.pointer (some ⟨w6.heap.size, 1, none⟩)) rfl rfl (by kernel_rfl) (by kernel_rfl) (by kernel_rfl) (fun _ _ _ h => h) rfl (fun w' hS => by obtain ⟨⟨s0, s1, s2⟩, ⟨s3, s4⟩, ⟨s5, s6, s7, s8⟩, ⟨s9, s10⟩, s11, s12, s13, s14⟩ := hS; go_simp) hHeld ?_
                try simp only [Act.put, List.setIfInBounds_toArray, List.set_cons_zero, List.set_cons_succ]
                refine held_yes 7 (some 183) (.int .i64 y) rfl rfl (by kernel_rfl) (by kernel_rfl) (by kernel_rfl) (fun _ _ _ h => h) rfl (fun w' hS => by obtain ⟨⟨s0, s1, s2⟩, ⟨s3, s4⟩, ⟨s5, s6, s7, s8⟩, ⟨s9, s10⟩, s11, s12, s13, s14⟩ := hS; go_simp) hHeld ?_
                try simp only [Act.put, List.setIfInBounds_toArray, List.set_cons_zero, List.set_cons_succ]
                refine held_yes 8 (some 184) (.slice (some ⟨b, o, none⟩) l.length cap) rfl rfl (by kernel_rfl) (by kernel_rfl) (by kernel_rfl) (fun _ _ _ h => h) rfl (fun w' hS => by obtain ⟨⟨s0, s1, s2⟩, ⟨s3, s4⟩, ⟨s5, s6, s7, s8⟩, ⟨s9, s10⟩, s11, s12, s13, s14⟩ := hS; go_simp) hHeld ?_
                try simp only [Act.put, List.setIfInBounds_toArray, List.set_cons_zero, List.set_cons_succ]
                refine held_yes 9 (some 185) (.pointer (some ⟨w6.heap.size, 0, none⟩)) rfl rfl (by kernel_rfl) (by kernel_rfl) (by kernel_rfl) (fun _ _ _ h => h) rfl (fun w' hS => by obtain ⟨⟨s0, s1, s2⟩, ⟨s3, s4⟩, ⟨s5, s6, s7, s8⟩, ⟨s9, s10⟩, s11, s12, s13, s14⟩ := hS; go_simp) hHeld ?_
                try simp only [Act.put, List.setIfInBounds_toArray, List.set_cons_zero, List.set_cons_succ]
                refine held_yes 10 (some 186) (.int .i64 i) rfl rfl (by kernel_rfl) (by kernel_rfl) (by kernel_rfl) (fun _ _ _ h => h) rfl (fun w' hS => by obtain ⟨⟨s0, s1, s2⟩, ⟨s3, s4⟩, ⟨s5, s6, s7, s8⟩, ⟨s9, s10⟩, s11, s12, s13, s14⟩ := hS; go_simp) hHeld ?_
                try simp only [Act.put, List.setIfInBounds_toArray, List.set_cons_zero, List.set_cons_succ]
                refine held_yes 11 (some 187) (.pointer (some ⟨b, o + i * 4, none⟩)) rfl rfl (by kernel_rfl) (by kernel_rfl) (by kernel_rfl) (fun _ _ _ h => h) rfl (fun w' hS => by obtain ⟨⟨s0, s1, s2⟩, ⟨s3, s4⟩, ⟨s5, s6, s7, s8⟩, ⟨s9, s10⟩, s11, s12, s13, s14⟩ := hS; go_simp) hHeld ?_
                try simp only [Act.put, List.setIfInBounds_toArray, List.set_cons_zero, List.set_cons_succ]
                refine held_yes 12 (some 188) (.pointer (some ⟨b, o + i * 4 + 2, none⟩)) rfl rfl (by kernel_rfl) (by kernel_rfl) (by kernel_rfl) (fun _ _ _ h => h) rfl (fun w' hS => by obtain ⟨⟨s0, s1, s2⟩, ⟨s3, s4⟩, ⟨s5, s6, s7, s8⟩, ⟨s9, s10⟩, s11, s12, s13, s14⟩ := hS; go_simp) hHeld ?_
                try simp only [Act.put, List.setIfInBounds_toArray, List.set_cons_zero, List.set_cons_succ]
                refine held_yes 13 (some 189) (.int .i64 gr) rfl rfl (by kernel_rfl) (by kernel_rfl) (by kernel_rfl) (fun _ _ _ h => h) rfl (fun w' hS => by obtain ⟨⟨s0, s1, s2⟩, ⟨s3, s4⟩, ⟨s5, s6, s7, s8⟩, ⟨s9, s10⟩, s11, s12, s13, s14⟩ := hS; go_simp) hHeld ?_
                try simp only [Act.put, List.setIfInBounds_toArray, List.set_cons_zero, List.set_cons_succ]
                refine held_yes 14 (some 190) (.bool false) rfl rfl (by kernel_rfl) (by kernel_rfl) (by kernel_rfl) (fun _ _ _ h => h) rfl (fun w' hS => by obtain ⟨⟨s0, s1, s2⟩, ⟨s3, s4⟩, ⟨s5, s6, s7, s8⟩, ⟨s9, s10⟩, s11, s12, s13, s14⟩ := hS; go_simp) hHeld ?_
                try simp only [Act.put, List.setIfInBounds_toArray, List.set_cons_zero, List.set_cons_succ]
                refine held_yes 15 (some 191) (.bool false) rfl rfl (by kernel_rfl) (by kernel_rfl) (by kernel_rfl) (fun _ _ _ h => h) rfl (fun w' hS => by obtain ⟨⟨s0, s1, s2⟩, ⟨s3, s4⟩, ⟨s5, s6, s7, s8⟩, ⟨s9, s10⟩, s11, s12, s13, s14⟩ := hS; go_simp) hHeld ?_
                try simp only [Act.put, List.setIfInBounds_toArray, List.set_cons_zero, List.set_cons_succ]
                refine held_yes 16 (some 192) (.bool false) rfl rfl (by kernel_rfl) (by kernel_rfl) (by kernel_rfl) (fun _ _ _ h => h) rfl (fun w' hS => by obtain ⟨⟨s0, s1, s2⟩, ⟨s3, s4⟩, ⟨s5, s6, s7, s8⟩, ⟨s9, s10⟩, s11, s12, s13, s14⟩ := hS; go_simp) hHeld ?_
                try simp only [Act.put, List.setIfInBounds_toArray, List.set_cons_zero, List.set_cons_succ]
                refine held_yes 17 (some 193) (.int .i64 k) rfl rfl (by kernel_rfl) (by kernel_rfl) (by kernel_rfl) (fun _ _ _ h => h) rfl (fun w' hS => by obtain ⟨⟨s0, s1, s2⟩, ⟨s3, s4⟩, ⟨s5, s6, s7, s8⟩, ⟨s9, s10⟩, s11, s12, s13, s14⟩ := hS; go_simp) hHeld ?_
                try simp only [Act.put, List.setIfInBounds_toArray, List.set_cons_zero, List.set_cons_succ]
                refine held_yes 18 (some 194) (.bool true) rfl rfl (by kernel_rfl) (by kernel_rfl) (by kernel_rfl) (fun _ _ _ h => h) rfl (fun w' hS => by obtain ⟨⟨s0, s1, s2⟩, ⟨s3, s4⟩, ⟨s5, s6, s7, s8⟩, ⟨s9, s10⟩, s11, s12, s13, s14⟩ := hS; go_simp) hHeld ?_
                try simp only [Act.put, List.setIfInBounds_toArray, List.set_cons_zero, List.set_cons_succ]
                refine held_yes 19 (some 195) (.bool true) rfl rfl (by kernel_rfl) (by kernel_rfl) (by kernel_rfl) (fun _ _ _ h => h) rfl (fun w' hS => by obtain ⟨⟨s0, s1, s2⟩, ⟨s3, s4⟩, ⟨s5, s6, s7, s8⟩, ⟨s9, s10⟩, s11, s12, s13, s14⟩ := hS; go_simp) hHeld ?_
                try simp only [Act.put, List.setIfInBounds_toArray, List.set_cons_zero, List.set_cons_succ]
                refine held_yes 20 (some 196) (.slice (some ⟨b, o, none⟩) l.length cap) rfl rfl (by kernel_rfl) (by kernel_rfl) (by kernel_rfl) (fun _ _ _ h => h) rfl (fun w' hS => by obtain ⟨⟨s0, s1, s2⟩, ⟨s3, s4⟩, ⟨s5, s6, s7, s8⟩, ⟨s9, s10⟩, s11, s12, s13, s14⟩ := hS; go_simp) hHeld ?_
                try simp only [Act.put, List.setIfInBounds_toArray, List.set_cons_zero, List.set_cons_succ]
                refine held_yes 21 (some 197) (.pointer (some ⟨w6.heap.size, 0, none⟩)) rfl rfl (by kernel_rfl) (by kernel_rfl) (by kernel_rfl) (fun _ _ _ h => h) rfl (fun w' hS => by obtain ⟨⟨s0, s1, s2⟩, ⟨s3, s4⟩, ⟨s5, s6, s7, s8⟩, ⟨s9, s10⟩, s11, s12, s13, s14⟩ := hS; go_simp) hHeld ?_
                try simp only [Act.put, List.setIfInBounds_toArray, List.set_cons_zero, List.set_cons_succ]
                refine held_yes 22 (some 198) (.int .i64 i) rfl rfl (by kernel_rfl) (by kernel_rfl) (by kernel_rfl) (fun _ _ _ h => h) rfl (fun w' hS => by obtain ⟨⟨s0, s1, s2⟩, ⟨s3, s4⟩, ⟨s5, s6, s7, s8⟩, ⟨s9, s10⟩, s11, s12, s13, s14⟩ := hS; go_simp) hHeld ?_
                try simp only [Act.put, List.setIfInBounds_toArray, List.set_cons_zero, List.set_cons_succ]
                refine held_yes 23 (some 199) (.pointer (some ⟨b, o + i * 4, none⟩)) rfl rfl (by kernel_rfl) (by kernel_rfl) (by kernel_rfl) (fun _ _ _ h => h) rfl (fun w' hS => by obtain ⟨⟨s0, s1, s2⟩, ⟨s3, s4⟩, ⟨s5, s6, s7, s8⟩, ⟨s9, s10⟩, s11, s12, s13, s14⟩ := hS; go_simp) hHeld ?_
                try simp only [Act.put, List.setIfInBounds_toArray, List.set_cons_zero, List.set_cons_succ]
                refine held_yes 24 (some 200) (.pointer (some ⟨b, o + i * 4 + 3, none⟩)) rfl rfl (by kernel_rfl) (by kernel_rfl) (by kernel_rfl) (fun _ _ _ h => h) rfl (fun w' hS => by obtain ⟨⟨s0, s1, s2⟩, ⟨s3, s4⟩, ⟨s5, s6, s7, s8⟩, ⟨s9, s10⟩, s11, s12, s13, s14⟩ := hS; go_simp) hHeld ?_
                try simp only [Act.put, List.setIfInBounds_toArray, List.set_cons_zero, List.set_cons_succ]
                refine held_yes 25 (some 201) (.int .i64 un) rfl rfl (by kernel_rfl) (by kernel_rfl) (by kernel_rfl) (fun _ _ _ h => h) rfl (fun w' hS => by obtain ⟨⟨s0, s1, s2⟩, ⟨s3, s4⟩, ⟨s5, s6, s7, s8⟩, ⟨s9, s10⟩, s11, s12, s13, s14⟩ := hS; go_simp) hHeld ?_
                try simp only [Act.put, List.setIfInBounds_toArray, List.set_cons_zero, List.set_cons_succ]
                refine held_yes 26 (some 202) (.slice (some ⟨b, o, none⟩) l.length cap) rfl rfl (by kernel_rfl) (by kernel_rfl) (by kernel_rfl) (fun _ _ _ h => h) rfl (fun w' hS => by obtain ⟨⟨s0, s1, s2⟩, ⟨s3, s4⟩, ⟨s5, s6, s7, s8⟩, ⟨s9, s10⟩, s11, s12, s13, s14⟩ := hS; go_simp) hHeld ?_
                try simp only [Act.put, List.setIfInBounds_toArray, List.set_cons_zero, List.set_cons_succ]
                refine held_yes 27 (some 203) (.slice (some ⟨ub, uo, none⟩) TT.length cU) rfl rfl (by kernel_rfl) (by kernel_rfl) (by kernel_rfl) (fun _ _ _ h => h) rfl (fun w' hS => by obtain ⟨⟨s0, s1, s2⟩, ⟨s3, s4⟩, ⟨s5, s6, s7, s8⟩, ⟨s9, s10⟩, s11, s12, s13, s14⟩ := hS; go_simp) hHeld ?_
                try simp only [Act.put, List.setIfInBounds_toArray, List.set_cons_zero, List.set_cons_succ]
                refine held_yes 28 (some 204) (.int .i64 k) rfl rfl (by kernel_rfl) (by kernel_rfl) (by kernel_rfl) (fun _ _ _ h => h) rfl (fun w' hS => by obtain ⟨⟨s0, s1, s2⟩, ⟨s3, s4⟩, ⟨s5, s6, s7, s8⟩, ⟨s9, s10⟩, s11, s12, s13, s14⟩ := hS; go_simp) hHeld ?_
                try simp only [Act.put, List.setIfInBounds_toArray, List.set_cons_zero, List.set_cons_succ]
                refine held_yes 29 (some 205) (.int .i64 j) rfl rfl (by kernel_rfl) (by kernel_rfl) (by kernel_rfl) (fun _ _ _ h => h) rfl (fun w' hS => by obtain ⟨⟨s0, s1, s2⟩, ⟨s3, s4⟩, ⟨s5, s6, s7, s8⟩, ⟨s9, s10⟩, s11, s12, s13, s14⟩ := hS; go_simp) hHeld ?_
                try simp only [Act.put, List.setIfInBounds_toArray, List.set_cons_zero, List.set_cons_succ]
                refine held_yes 30 (some 206) (.pointer (some ⟨ub, uo + j * 2, none⟩)) rfl rfl (by kernel_rfl) (by kernel_rfl) (by kernel_rfl) (fun _ _ _ h => h) rfl (fun w' hS => by obtain ⟨⟨s0, s1, s2⟩, ⟨s3, s4⟩, ⟨s5, s6, s7, s8⟩, ⟨s9, s10⟩, s11, s12, s13, s14⟩ := hS; go_simp) hHeld ?_
                try simp only [Act.put, List.setIfInBounds_toArray, List.set_cons_zero, List.set_cons_succ]
                refine held_yes 31 (some 207) (.pointer (some ⟨ub, uo + j * 2, none⟩)) rfl rfl (by kernel_rfl) (by kernel_rfl) (by kernel_rfl) (fun _ _ _ h => h) rfl (fun w' hS => by obtain ⟨⟨s0, s1, s2⟩, ⟨s3, s4⟩, ⟨s5, s6, s7, s8⟩, ⟨s9, s10⟩, s11, s12, s13, s14⟩ := hS; go_simp) hHeld ?_
                try simp only [Act.put, List.setIfInBounds_toArray, List.set_cons_zero, List.set_cons_succ]
                refine held_yes 32 (some 208) (.int .i64 ip) rfl rfl (by kernel_rfl) (by kernel_rfl) (by kernel_rfl) (fun _ _ _ h => h) rfl (fun w' hS => by obtain ⟨⟨s0, s1, s2⟩, ⟨s3, s4⟩, ⟨s5, s6, s7, s8⟩, ⟨s9, s10⟩, s11, s12, s13, s14⟩ := hS; go_simp) hHeld ?_
                try simp only [Act.put, List.setIfInBounds_toArray, List.set_cons_zero, List.set_cons_succ]
                refine held_yes 33 (some 209) (.pointer (some ⟨b, o + ip * 4, none⟩)) rfl rfl (by kernel_rfl) (by kernel_rfl) (by kernel_rfl) (fun _ _ _ h => h) rfl (fun w' hS => by obtain ⟨⟨s0, s1, s2⟩, ⟨s3, s4⟩, ⟨s5, s6, s7, s8⟩, ⟨s9, s10⟩, s11, s12, s13, s14⟩ := hS; go_simp) hHeld ?_
                try simp only [Act.put, List.setIfInBounds_toArray, List.set_cons_zero, List.set_cons_succ]
                refine held_yes 34 (some 210) (.pointer (some ⟨b, o + ip * 4 + 3, none⟩)) rfl rfl (by kernel_rfl) (by kernel_rfl) (by kernel_rfl) (fun _ _ _ h => h) rfl (fun w' hS => by obtain ⟨⟨s0, s1, s2⟩, ⟨s3, s4⟩, ⟨s5, s6, s7, s8⟩, ⟨s9, s10⟩, s11, s12, s13, s14⟩ := hS; go_simp) hHeld ?_
                try simp only [Act.put, List.setIfInBounds_toArray, List.set_cons_zero, List.set_cons_succ]
                refine held_yes 35 (some 211) (.int .i64 unp) rfl rfl (by kernel_rfl) (by kernel_rfl) (by kernel_rfl) (fun _ _ _ h => h) rfl (fun w' hS => by obtain ⟨⟨s0, s1, s2⟩, ⟨s3, s4⟩, ⟨s5, s6, s7, s8⟩, ⟨s9, s10⟩, s11, s12, s13, s14⟩ := hS; go_simp) hHeld ?_
                try simp only [Act.put, List.setIfInBounds_toArray, List.set_cons_zero, List.set_cons_succ]
                refine held_yes 36 (some 212) (.bool false) rfl rfl (by kernel_rfl) (by kernel_rfl) (by kernel_rfl) (fun _ _ _ h => h) rfl (fun w' hS => by obtain ⟨⟨s0, s1, s2⟩, ⟨s3, s4⟩, ⟨s5, s6, s7, s8⟩, ⟨s9, s10⟩, s11, s12, s13, s14⟩ := hS; go_simp) hHeld ?_
                try simp only [Act.put, List.setIfInBounds_toArray, List.set_cons_zero, List.set_cons_succ]
                refine held_yes 37 (some 213) (.bool false) rfl rfl (by kernel_rfl) (by kernel_rfl) (by kernel_rfl) (fun _ _ _ h => h) rfl (fun w' hS => by obtain ⟨⟨s0, s1, s2⟩, ⟨s3, s4⟩, ⟨s5, s6, s7, s8⟩, ⟨s9, s10⟩, s11, s12, s13, s14⟩ := hS; go_simp) hHeld ?_
                try simp only [Act.put, List.setIfInBounds_toArray, List.set_cons_zero, List.set_cons_succ]
                refine held_yes 38 (some 214) (.bool false) rfl rfl (by kernel_rfl) (by kernel_rfl) (by kernel_rfl) (fun _ _ _ h => h) rfl (fun w' hS => by obtain ⟨⟨s0, s1, s2⟩, ⟨s3, s4⟩, ⟨s5, s6, s7, s8⟩, ⟨s9, s10⟩, s11, s12, s13, s14⟩ := hS; go_simp) hHeld ?_
                try simp only [Act.put, List.setIfInBounds_toArray, List.set_cons_zero, List.set_cons_succ]
                have hX8 := hXt.trans (hD2.mono hXt.size)
                have HT8 := Lib.hid (show _ ∧ _ ∧ _ ∧ _ from ⟨(kt _ hD2).2.1.1, (kt _ hD2).2.1.2, Nat.lt_of_lt_of_le hlt6 hD2.size, (kt _ hD2).2.2.2⟩)
                generalize Wt.drew.drew = W8 at hX8 HT8 hD2 hHeld ⊢
                refine wpAnyH_done (by kernel_rfl) ?_ _
                clear hHeld
                obtain ⟨m0, m1, hgm, hMt⟩ := HT8.out
                obtain ⟨w9, hup, hM9, hg9m⟩ := updateI hMt i hni
                have hX9 := hX8.grown hg9m hX8.size (fun q hq => by injection hq with hq; omega)
                have y9 : w9.cell? ⟨w6.heap.size, 1, none⟩ = some (.int .i64 y) := (World.cell?_of_block (a := ⟨w6.heap.size, 1, none⟩) (hg9m.block _ hgm (by simp; omega))).trans m1
                have hz9 : mb < w9.heap.size := hM9.lt
                rw [← HSU.out] at hM9
                have HR := Lib.hid (And.intro hM9 (And.intro hX9 hz9))
                obtain ⟨ws1, ws2⟩ := HWS.out
                obtain ⟨wk1, wk2⟩ := HWK.out
                clear hMt hM9 hg9m hX9 hz9 m1 hgm HT8 hX8 hyg hun hd1 hd2 hd3 hd4 hd5 hd6 hkb hlk1 hkl
                go_wp2_with fail
                go_roundw
                case rel => exact ⟨k + 1, HKK.out, by simp, by rw [HS2.out], HR.out.1, HR.out.2.1, HR.out.2.2⟩
                case measure => exact HKM.out
            · have hkl : decide ((k : Int) < (TT.length : Int) - 1) = false := decide_eq_false (by omega)
              rcases Nat.eq_zero_or_pos k with hk0 | hk0
              · have hkp : decide ((0 : Int) < (k : Int)) = false := decide_eq_false (by omega)
                have hkp2 : decide (0 < k) = false := decide_eq_false (by omega)
                clear hk0
                have kt2 : ∀ V, Below Wt.heap.size Wt V → (V.cell? ⟨w.heap.size, 0, none⟩ = some (.string kind) ∧ V.cell? ⟨w.heap.size, 1, none⟩ = some (.int .i64 g0) ∧ V.cell? ⟨w.heap.size, 2, none⟩ = some (.int .i64 day)) ∧ (V.cell? ⟨w6.heap.size, 0, none⟩ = some (.int .i64 (i : Int)) ∧ V.cell? ⟨w6.heap.size, 1, none⟩ = some (.int .i64 y)) ∧ (V.cell? ⟨b, o + i * 4, none⟩ = some (.string nm) ∧ V.cell? ⟨b, o + i * 4 + 1, none⟩ = some (.string kd) ∧ V.cell? ⟨b, o + i * 4 + 2, none⟩ = some (.int .i64 gr) ∧ V.cell? ⟨b, o + i * 4 + 3, none⟩ = some (.int .i64 un)) := fun V h => ⟨(kt V h).1, (kt V h).2.1, (kt V h).2.2.1⟩
                as_aux_lemma =>
                refine wp_region_held_drew (S := fun V => (V.cell? ⟨w.heap.size, 0, none⟩ = some (.string kind) ∧ V.cell? ⟨w.heap.size, 1, none⟩ = some (.int .i64 g0) ∧ V.cell? ⟨w.heap.size, 2, none⟩ = some (.int .i64 day)) ∧ (V.cell? ⟨w6.heap.size, 0, none⟩ = some (.int .i64 (i : Int)) ∧ V.cell? ⟨w6.heap.size, 1, none⟩ = some (.int .i64 y)) ∧ (V.cell? ⟨b, o + i * 4, none⟩ = some (.string nm) ∧ V.cell? ⟨b, o + i * 4 + 1, none⟩ = some (.string kd) ∧ V.cell? ⟨b, o + i * 4 + 2, none⟩ = some (.int .i64 gr) ∧ V.cell? ⟨b, o + i * 4 + 3, none⟩ = some (.int .i64 un))) (by kernel_rfl) (kt2 _ hD2) (fun hHeld => ?_)
                refine held_yes 0 (some 176) (.int .i64 k) rfl rfl (by kernel_rfl) (by kernel_rfl) (by kernel_rfl) (fun _ _ _ h => h) rfl (fun w' hS => by obtain ⟨⟨s0, s1, s2⟩, ⟨s3, s4⟩, s5, s6, s7, s8⟩ := hS; go_simp) hHeld ?_
                try simp only [Act.put, List.setIfInBounds_toArray, List.set_cons_zero, List.set_cons_succ]
                refine held_yes 1 (some 177) (.slice (some ⟨ub, uo, none⟩) TT.length cU) rfl rfl (by kernel_rfl) (by kernel_rfl) (by kernel_rfl) (fun _ _ _ h => h) rfl (fun w' hS => by obtain ⟨⟨s0, s1, s2⟩, ⟨s3, s4⟩, s5, s6, s7, s8⟩ := hS; go_simp) hHeld ?_
                try simp only [Act.put, List.setIfInBounds_toArray, List.set_cons_zero, List.set_cons_succ]
                refine held_yes 2 (some 178) (.int .i64 TT.length) rfl rfl (by kernel_rfl) (by kernel_rfl) (by kernel_rfl) (fun _ _ _ h => h) rfl (fun w' hS => by obtain ⟨⟨s0, s1, s2⟩, ⟨s3, s4⟩, s5, s6, s7, s8⟩ := hS; go_simp) hHeld ?_
                try simp only [Act.put, List.setIfInBounds_toArray, List.set_cons_zero, List.set_cons_succ]
                refine held_yes 3 (some 179) (.int .i64 (TT.length - 1)) rfl rfl (by kernel_rfl) (by kernel_rfl) (by kernel_rfl) (fun _ _ _ h => h) rfl (fun w' hS => by obtain ⟨⟨s0, s1, s2⟩, ⟨s3, s4⟩, s5, s6, s7, s8⟩ := hS; go_simp) hHeld ?_
                try simp only [Act.put, List.setIfInBounds_toArray, List.set_cons_zero, List.set_cons_succ]
                refine held_yes 4 (some 180) (.bool false) rfl rfl (by kernel_rfl) (by kernel_rfl) (by kernel_rfl) (fun _ _ _ h => h) rfl (fun w' hS => by obtain ⟨⟨s0, s1, s2⟩, ⟨s3, s4⟩, s5, s6, s7, s8⟩ := hS; go_simp) hHeld ?_
                try simp only [Act.put, List.setIfInBounds_toArray, List.set_cons_zero, List.set_cons_succ]
                refine held_yes 5 (some 181) (.bool false) rfl rfl (by kernel_rfl) (by kernel_rfl) (by kernel_rfl) (fun _ _ _ h => h) rfl (fun w' hS => by obtain ⟨⟨s0, s1, s2⟩, ⟨s3, s4⟩, s5, s6, s7, s8⟩ := hS; go_simp) hHeld ?_
                try simp only [Act.put, List.setIfInBounds_toArray, List.set_cons_zero, List.set_cons_succ]
                refine held_no 6 (some 182) rfl rfl (by kernel_rfl) (by kernel_rfl) (by kernel_rfl) (fun _ _ _ h => h) rfl hHeld ?_
                try simp only [Act.put, List.setIfInBounds_toArray, List.set_cons_zero, List.set_cons_succ]
                refine held_no 7 (some 183) rfl rfl (by kernel_rfl) (by kernel_rfl) (by kernel_rfl) (fun _ _ _ h => h) rfl hHeld ?_
                try simp only [Act.put, List.setIfInBounds_toArray, List.set_cons_zero, List.set_cons_succ]
                refine held_no 8 (some 184) rfl rfl (by kernel_rfl) (by kernel_rfl) (by kernel_rfl) (fun _ _ _ h => h) rfl hHeld ?_
                try simp only [Act.put, List.setIfInBounds_toArray, List.set_cons_zero, List.set_cons_succ]
                refine held_no 9 (some 185) rfl rfl (by kernel_rfl) (by kernel_rfl) (by kernel_rfl) (fun _ _ _ h => h) rfl hHeld ?_
                try simp only [Act.put, List.setIfInBounds_toArray, List.set_cons_zero, List.set_cons_succ]
                refine held_no 10 (some 186) rfl rfl (by kernel_rfl) (by kernel_rfl) (by kernel_rfl) (fun _ _ _ h => h) rfl hHeld ?_
                try simp only [Act.put, List.setIfInBounds_toArray, List.set_cons_zero, List.set_cons_succ]
                refine held_no 11 (some 187) rfl rfl (by kernel_rfl) (by kernel_rfl) (by kernel_rfl) (fun _ _ _ h => h) rfl hHeld ?_
                try simp only [Act.put, List.setIfInBounds_toArray, List.set_cons_zero, List.set_cons_succ]
                refine held_no 12 (some 188) rfl rfl (by kernel_rfl) (by kernel_rfl) (by kernel_rfl) (fun _ _ _ h => h) rfl hHeld ?_
                try simp only [Act.put, List.setIfInBounds_toArray, List.set_cons_zero, List.set_cons_succ]
                refine held_no 13 (some 189) rfl rfl (by kernel_rfl) (by kernel_rfl) (by kernel_rfl) (fun _ _ _ h => h) rfl hHeld ?_
                try simp only [Act.put, List.setIfInBounds_toArray, List.set_cons_zero, List.set_cons_succ]
                refine held_no 14 (some 190) rfl rfl (by kernel_rfl) (by kernel_rfl) (by kernel_rfl) (fun _ _ _ h => h) rfl hHeld ?_
                try simp only [Act.put, List.setIfInBounds_toArray, List.set_cons_zero, List.set_cons_succ]
                refine held_yes 15 (some 191) (.bool false) rfl rfl (by kernel_rfl) (by kernel_rfl) (by kernel_rfl) (fun _ _ _ h => h) rfl (fun w' hS => by obtain ⟨⟨s0, s1, s2⟩, ⟨s3, s4⟩, s5, s6, s7, s8⟩ := hS; go_simp) hHeld ?_
                try simp only [Act.put, List.setIfInBounds_toArray, List.set_cons_zero, List.set_cons_succ]
                refine held_yes 16 (some 192) (.bool false) rfl rfl (by kernel_rfl) (by kernel_rfl) (by kernel_rfl) (fun _ _ _ h => h) rfl (fun w' hS => by obtain ⟨⟨s0, s1, s2⟩, ⟨s3, s4⟩, s5, s6, s7, s8⟩ := hS; go_simp) hHeld ?_
                try simp only [Act.put, List.setIfInBounds_toArray, List.set_cons_zero, List.set_cons_succ]
                refine held_yes 17 (some 193) (.int .i64 k) rfl rfl (by kernel_rfl) (by kernel_rfl) (by kernel_rfl) (fun _ _ _ h => h) rfl (fun w' hS => by obtain ⟨⟨s0, s1, s2⟩, ⟨s3, s4⟩, s5, s6, s7, s8⟩ := hS; go_simp) hHeld ?_
                try simp only [Act.put, List.setIfInBounds_toArray, List.set_cons_zero, List.set_cons_succ]
                refine held_yes 18 (some 194) (.bool false) rfl rfl (by kernel_rfl) (by kernel_rfl) (by kernel_rfl) (fun _ _ _ h => h) rfl (fun w' hS => by obtain ⟨⟨s0, s1, s2⟩, ⟨s3, s4⟩, s5, s6, s7, s8⟩ := hS; go_simp) hHeld ?_
                try simp only [Act.put, List.setIfInBounds_toArray, List.set_cons_zero, List.set_cons_succ]
                refine held_yes 19 (some 195) (.bool false) rfl rfl (by kernel_rfl) (by kernel_rfl) (by kernel_rfl) (fun _ _ _ h => h) rfl (fun w' hS => by obtain ⟨⟨s0, s1, s2⟩, ⟨s3, s4⟩, s5, s6, s7, s8⟩ := hS; go_simp) hHeld ?_
                try simp only [Act.put, List.setIfInBounds_toArray, List.set_cons_zero, List.set_cons_succ]
                refine held_no 20 (some 196) rfl rfl (by kernel_rfl) (by kernel_rfl) (by kernel_rfl) (fun _ _ _ h => h) rfl hHeld ?_
                try simp only [Act.put, List.setIfInBounds_toArray, List.set_cons_zero, List.set_cons_succ]
                refine held_no 21 (some 197) rfl rfl (by kernel_rfl) (by kernel_rfl) (by kernel_rfl) (fun _ _ _ h => h) rfl hHeld ?_
                try simp only [Act.put, List.setIfInBounds_toArray, List.set_cons_zero, List.set_cons_succ]
                refine held_no 22 (some 198) rfl rfl (by kernel_rfl) (by kernel_rfl) (by kernel_rfl) (fun _ _ _ h => h) rfl hHeld ?_
                try simp only [Act.put, List.setIfInBounds_toArray, List.set_cons_zero, List.set_cons_succ]
                refine held_no 23 (some 199) rfl rfl (by kernel_rfl) (by kernel_rfl) (by kernel_rfl) (fun _ _ _ h => h) rfl hHeld ?_
                try simp only [Act.put, List.setIfInBounds_toArray, List.set_cons_zero, List.set_cons_succ]
                refine held_no 24 (some 200) rfl rfl (by kernel_rfl) (by kernel_rfl) (by kernel_rfl) (fun _ _ _ h => h) rfl hHeld ?_
                try simp only [Act.put, List.setIfInBounds_toArray, List.set_cons_zero, List.set_cons_succ]
                refine held_no 25 (some 201) rfl rfl (by kernel_rfl) (by kernel_rfl) (by kernel_rfl) (fun _ _ _ h => h) rfl hHeld ?_
                try simp only [Act.put, List.setIfInBounds_toArray, List.set_cons_zero, List.set_cons_succ]
                refine held_no 26 (some 202) rfl rfl (by kernel_rfl) (by kernel_rfl) (by kernel_rfl) (fun _ _ _ h => h) rfl hHeld ?_
                try simp only [Act.put, List.setIfInBounds_toArray, List.set_cons_zero, List.set_cons_succ]
                refine held_no 27 (some 203) rfl rfl (by kernel_rfl) (by kernel_rfl) (by kernel_rfl) (fun _ _ _ h => h) rfl hHeld ?_
                try simp only [Act.put, List.setIfInBounds_toArray, List.set_cons_zero, List.set_cons_succ]
                refine held_no 28 (some 204) rfl rfl (by kernel_rfl) (by kernel_rfl) (by kernel_rfl) (fun _ _ _ h => h) rfl hHeld ?_
                try simp only [Act.put, List.setIfInBounds_toArray, List.set_cons_zero, List.set_cons_succ]
                refine held_no 29 (some 205) rfl rfl (by kernel_rfl) (by kernel_rfl) (by kernel_rfl) (fun _ _ _ h => h) rfl hHeld ?_
                try simp only [Act.put, List.setIfInBounds_toArray, List.set_cons_zero, List.set_cons_succ]
                refine held_no 30 (some 206) rfl rfl (by kernel_rfl) (by kernel_rfl) (by kernel_rfl) (fun _ _ _ h => h) rfl hHeld ?_
                try simp only [Act.put, List.setIfInBounds_toArray, List.set_cons_zero, List.set_cons_succ]
                refine held_no 31 (some 207) rfl rfl (by kernel_rfl) (by kernel_rfl) (by kernel_rfl) (fun _ _ _ h => h) rfl hHeld ?_
                try simp only [Act.put, List.setIfInBounds_toArray, List.set_cons_zero, List.set_cons_succ]
                refine held_no 32 (some 208) rfl rfl (by kernel_rfl) (by kernel_rfl) (by kernel_rfl) (fun _ _ _ h => h) rfl hHeld ?_
                try simp only [Act.put, List.setIfInBounds_toArray, List.set_cons_zero, List.set_cons_succ]
                refine held_no 33 (some 209) rfl rfl (by kernel_rfl) (by kernel_rfl) (by kernel_rfl) (fun _ _ _ h => h) rfl hHeld ?_
                try simp only [Act.put, List.setIfInBounds_toArray, List.set_cons_zero, List.set_cons_succ]
                refine held_no 34 (some 210) rfl rfl (by kernel_rfl) (by kernel_rfl) (by kernel_rfl) (fun _ _ _ h => h) rfl hHeld ?_
                try simp only [Act.put, List.setIfInBounds_toArray, List.set_cons_zero, List.set_cons_succ]
                refine held_no 35 (some 211) rfl rfl (by kernel_rfl) (by kernel_rfl) (by kernel_rfl) (fun _ _ _ h => h) rfl hHeld ?_
                try simp only [Act.put, List.setIfInBounds_toArray, List.set_cons_zero, List.set_cons_succ]
                refine held_no 36 (some 212) rfl rfl (by kernel_rfl) (by kernel_rfl) (by kernel_rfl) (fun _ _ _ h => h) rfl hHeld ?_
                try simp only [Act.put, List.setIfInBounds_toArray, List.set_cons_zero, List.set_cons_succ]
                refine held_yes 37 (some 213) (.bool false) rfl rfl (by kernel_rfl) (by kernel_rfl) (by kernel_rfl) (fun _ _ _ h => h) rfl (fun w' hS => by obtain ⟨⟨s0, s1, s2⟩, ⟨s3, s4⟩, s5, s6, s7, s8⟩ := hS; go_simp) hHeld ?_
                try simp only [Act.put, List.setIfInBounds_toArray, List.set_cons_zero, List.set_cons_succ]
                refine held_yes 38 (some 214) (.bool false) rfl rfl (by kernel_rfl) (by kernel_rfl) (by kernel_rfl) (fun _ _ _ h => h) rfl (fun w' hS => by obtain ⟨⟨s0, s1, s2⟩, ⟨s3, s4⟩, s5, s6, s7, s8⟩ := hS; go_simp) hHeld ?_
                try simp only [Act.put, List.setIfInBounds_toArray, List.set_cons_zero, List.set_cons_succ]
                have hX8 := hXt.trans (hD2.mono hXt.size)
                have HT8 := Lib.hid (show _ ∧ _ ∧ _ ∧ _ from ⟨(kt _ hD2).2.1.1, (kt _ hD2).2.1.2, Nat.lt_of_lt_of_le hlt6 hD2.size, (kt _ hD2).2.2.2⟩)
                generalize Wt.drew.drew = W8 at hX8 HT8 hD2 hHeld ⊢
                refine wpAnyH_done (by kernel_rfl) ?_ _
                clear hHeld
                obtain ⟨m0, m1, hgm, hMt⟩ := HT8.out
                obtain ⟨w9, hup, hM9, hg9m⟩ := updateI hMt i hni
                have hX9 := hX8.grown hg9m hX8.size (fun q hq => by injection hq with hq; omega)
                have y9 : w9.cell? ⟨w6.heap.size, 1, none⟩ = some (.int .i64 y) := (World.cell?_of_block (a := ⟨w6.heap.size, 1, none⟩) (hg9m.block _ hgm (by simp; omega))).trans m1
                have hz9 : mb < w9.heap.size := hM9.lt
                rw [← HSU.out] at hM9
                have HR := Lib.hid (And.intro hM9 (And.intro hX9 hz9))
                obtain ⟨ws1, ws2⟩ := HWS.out
                obtain ⟨wk1, wk2⟩ := HWK.out
                clear hMt hM9 hg9m hX9 hz9 m1 hgm HT8 hX8  hd1 hd2 hd3 hd4 hd5 hd6 hkb hlk1 hkl
                go_wp2_with fail
                go_roundw
                case rel => exact ⟨k + 1, HKK.out, by simp, by rw [HS2.out], HR.out.1, HR.out.2.1, HR.out.2.2⟩
                case measure => exact HKM.out
              · have hkp : decide ((0 : Int) < (k : Int)) = true := decide_eq_true (by omega)
                have hkp2 : decide (0 < k) = true := decide_eq_true hk0
                obtain ⟨j, hj⟩ : ∃ j, j + 1 = k := ⟨k - 1, by omega⟩
                obtain ⟨⟨ip, yp⟩, hyp⟩ : ∃ x, TT[j]? = some x := ⟨_, List.getElem?_eq_getElem (by omega)⟩
                obtain ⟨-, havp, -, -⟩ := HINV.out.at_ _ (List.mem_of_getElem? hyp)
                dsimp only at havp
                obtain ⟨⟨nmp, kdp, grp, unp⟩, hcp⟩ := avail_some havp
                have hinc := pair_at HINV.out.inc (show j < k by omega) hyp HY.out
                rw [untilOf_at hcp, untilOf_at HC.out] at hinc
                dsimp only at hinc
                have hun : decide (un < unp) = false := decide_eq_false (by omega)
                have hwk1 : IntKind.i64.wrap ((k : Int) - 1) = (j : Int) := by rw [wrap_small (by omega)]; omega
                have hip : ip < l.length := (List.getElem?_eq_some_iff.1 hcp).1
                have hp0 : (0 : Int) ≤ ip := by omega
                have hp1 : (ip : Int) < l.length := by omega
                have hq0 : (0 : Int) ≤ j := by omega
                have hq1 : (j : Int) < TT.length := by omega
                have kt2 : ∀ V, Below Wt.heap.size Wt V → (V.cell? ⟨w.heap.size, 0, none⟩ = some (.string kind) ∧ V.cell? ⟨w.heap.size, 1, none⟩ = some (.int .i64 g0) ∧ V.cell? ⟨w.heap.size, 2, none⟩ = some (.int .i64 day)) ∧ (V.cell? ⟨w6.heap.size, 0, none⟩ = some (.int .i64 (i : Int)) ∧ V.cell? ⟨w6.heap.size, 1, none⟩ = some (.int .i64 y)) ∧ (V.cell? ⟨b, o + i * 4, none⟩ = some (.string nm) ∧ V.cell? ⟨b, o + i * 4 + 1, none⟩ = some (.string kd) ∧ V.cell? ⟨b, o + i * 4 + 2, none⟩ = some (.int .i64 gr) ∧ V.cell? ⟨b, o + i * 4 + 3, none⟩ = some (.int .i64 un)) ∧ (V.cell? ⟨ub, uo + j * 2, none⟩ = some (.int .i64 (ip : Int)) ∧ V.cell? ⟨ub, uo + j * 2 + 1, none⟩ = some (.int .i64 yp)) ∧ (V.cell? ⟨b, o + ip * 4, none⟩ = some (.string nmp) ∧ V.cell? ⟨b, o + ip * 4 + 1, none⟩ = some (.string kdp) ∧ V.cell? ⟨b, o + ip * 4 + 2, none⟩ = some (.int .i64 grp) ∧ V.cell? ⟨b, o + ip * 4 + 3, none⟩ = some (.int .i64 unp)) := fun V h => by
                  have hV := hXt.trans (h.mono hXt.size)
                  obtain ⟨b', o', e5, -, -, c0, c1, c2, c3⟩ := bat_cells (ksl3 _ hV) hcp
                  injection e5 with e5
                  injection e5 with e6 e7
                  subst e6 e7
                  obtain ⟨b', o', e5, -, -, d0, d1⟩ := tak_cells (ktk _ h) hyp
                  injection e5 with e5
                  injection e5 with e6 e7
                  subst e6 e7
                  exact ⟨(kt V h).1, (kt V h).2.1, (kt V h).2.2.1, ⟨d0, d1⟩, c0, c1, c2, c3⟩
                clear hyp havp hcp hinc hip hj
                as_aux_lemma =>
                refine wp_region_held_drew (S := fun V => (V.cell? ⟨w.heap.size, 0, none⟩ = some (.string kind) ∧ V.cell? ⟨w.heap.size, 1, none⟩ = some (.int .i64 g0) ∧ V.cell? ⟨w.heap.size, 2, none⟩ = some (.int .i64 day)) ∧ (V.cell? ⟨w6.heap.size, 0, none⟩ = some (.int .i64 (i : Int)) ∧ V.cell? ⟨w6.heap.size, 1, none⟩ = some (.int .i64 y)) ∧ (V.cell? ⟨b, o + i * 4, none⟩ = some (.string nm) ∧ V.cell? ⟨b, o + i * 4 + 1, none⟩ = some (.string kd) ∧ V.cell? ⟨b, o + i * 4 + 2, none⟩ = some (.int .i64 gr) ∧ V.cell? ⟨b, o + i * 4 + 3, none⟩ = some (.int .i64 un)) ∧ (V.cell? ⟨ub, uo + j * 2, none⟩ = some (.int .i64 (ip : Int)) ∧ V.cell? ⟨ub, uo + j * 2 + 1, none⟩ = some (.int .i64 yp)) ∧ (V.cell? ⟨b, o + ip * 4, none⟩ = some (.string nmp) ∧ V.cell? ⟨b, o + ip * 4 + 1, none⟩ = some (.string kdp) ∧ V.cell? ⟨b, o + ip * 4 + 2, none⟩ = some (.int .i64 grp) ∧ V.cell? ⟨b, o + ip * 4 + 3, none⟩ = some (.int .i64 unp))) (by kernel_rfl) (kt2 _ hD2) (fun hHeld => ?_)
                refine held_yes 0 (some 176) (.int .i64 k) rfl rfl (by kernel_rfl) (by kernel_rfl) (by kernel_rfl) (fun _ _ _ h => h) rfl (fun w' hS => by obtain ⟨⟨s0, s1, s2⟩, ⟨s3, s4⟩, ⟨s5, s6, s7, s8⟩, ⟨s9, s10⟩, s11, s12, s13, s14⟩ := hS; go_simp) hHeld ?_
                try simp only [Act.put, List.setIfInBounds_toArray, List.set_cons_zero, List.set_cons_succ]
                refine held_yes 1 (some 177) (.slice (some ⟨ub, uo, none⟩) TT.length cU) rfl rfl (by kernel_rfl) (by kernel_rfl) (by kernel_rfl) (fun _ _ _ h => h) rfl (fun w' hS => by obtain ⟨⟨s0, s1, s2⟩, ⟨s3, s4⟩, ⟨s5, s6, s7, s8⟩, ⟨s9, s10⟩, s11, s12, s13, s14⟩ := hS; go_simp) hHeld ?_
                try simp only [Act.put, List.setIfInBounds_toArray, List.set_cons_zero, List.set_cons_succ]
                refine held_yes 2 (some 178) (.int .i64 TT.length) rfl rfl (by kernel_rfl) (by kernel_rfl) (by kernel_rfl) (fun _ _ _ h => h) rfl (fun w' hS => by obtain ⟨⟨s0, s1, s2⟩, ⟨s3, s4⟩, ⟨s5, s6, s7, s8⟩, ⟨s9, s10⟩, s11, s12, s13, s14⟩ := hS; go_simp) hHeld ?_
                try simp only [Act.put, List.setIfInBounds_toArray, List.set_cons_zero, List.set_cons_succ]
                refine held_yes 3 (some 179) (.int .i64 (TT.length - 1)) rfl rfl (by kernel_rfl) (by kernel_rfl) (by kernel_rfl) (fun _ _ _ h => h) rfl (fun w' hS => by obtain ⟨⟨s0, s1, s2⟩, ⟨s3, s4⟩, ⟨s5, s6, s7, s8⟩, ⟨s9, s10⟩, s11, s12, s13, s14⟩ := hS; go_simp) hHeld ?_
                try simp only [Act.put, List.setIfInBounds_toArray, List.set_cons_zero, List.set_cons_succ]
                refine held_yes 4 (some 180) (.bool false) rfl rfl (by kernel_rfl) (by kernel_rfl) (by kernel_rfl) (fun _ _ _ h => h) rfl (fun w' hS => by obtain ⟨⟨s0, s1, s2⟩, ⟨s3, s4⟩, ⟨s5, s6, s7, s8⟩, ⟨s9, s10⟩, s11, s12, s13, s14⟩ := hS; go_simp) hHeld ?_
                try simp only [Act.put, List.setIfInBounds_toArray, List.set_cons_zero, List.set_cons_succ]
                refine held_yes 5 (some 181) (.bool false) rfl rfl (by kernel_rfl) (by kernel_rfl) (by kernel_rfl) (fun _ _ _ h => h) rfl (fun w' hS => by obtain ⟨⟨s0, s1, s2⟩, ⟨s3, s4⟩, ⟨s5, s6, s7, s8⟩, ⟨s9, s10⟩, s11, s12, s13, s14⟩ := hS; go_simp) hHeld ?_
                try simp only [Act.put, List.setIfInBounds_toArray, List.set_cons_zero, List.set_cons_succ]
                refine held_no 6 (some 182) rfl rfl (by kernel_rfl) (by kernel_rfl) (by kernel_rfl) (fun _ _ _ h => h) rfl hHeld ?_
                try simp only [Act.put, List.setIfInBounds_toArray, List.set_cons_zero, List.set_cons_succ]
                refine held_no 7 (some 183) rfl rfl (by kernel_rfl) (by kernel_rfl) (by kernel_rfl) (fun _ _ _ h => h) rfl hHeld ?_
                try simp only [Act.put, List.setIfInBounds_toArray, List.set_cons_zero, List.set_cons_succ]
                refine held_no 8 (some 184) rfl rfl (by kernel_rfl) (by kernel_rfl) (by kernel_rfl) (fun _ _ _ h => h) rfl hHeld ?_
                try simp only [Act.put, List.setIfInBounds_toArray, List.set_cons_zero, List.set_cons_succ]
                refine held_no 9 (some 185) rfl rfl (by kernel_rfl) (by kernel_rfl) (by kernel_rfl) (fun _ _ _ h => h) rfl hHeld ?_
                try simp only [Act.put, List.setIfInBounds_toArray, List.set_cons_zero, List.set_cons_succ]
                refine held_no 10 (some 186) rfl rfl (by kernel_rfl) (by kernel_rfl) (by kernel_rfl) (fun _ _ _ h => h) rfl hHeld ?_
                try simp only [Act.put, List.setIfInBounds_toArray, List.set_cons_zero, List.set_cons_succ]
                refine held_no 11 (some 187) rfl rfl (by kernel_rfl) (by kernel_rfl) (by kernel_rfl) (fun _ _ _ h => h) rfl hHeld ?_
                try simp only [Act.put, List.setIfInBounds_toArray, List.set_cons_zero, List.set_cons_succ]
                refine held_no 12 (some 188) rfl rfl (by kernel_rfl) (by kernel_rfl) (by kernel_rfl) (fun _ _ _ h => h) rfl hHeld ?_
                try simp only [Act.put, List.setIfInBounds_toArray, List.set_cons_zero, List.set_cons_succ]
                refine held_no 13 (some 189) rfl rfl (by kernel_rfl) (by kernel_rfl) (by kernel_rfl) (fun _ _ _ h => h) rfl hHeld ?_
                try simp only [Act.put, List.setIfInBounds_toArray, List.set_cons_zero, List.set_cons_succ]
                refine held_no 14 (some 190) rfl rfl (by kernel_rfl) (by kernel_rfl) (by kernel_rfl) (fun _ _ _ h => h) rfl hHeld ?_
                try simp only [Act.put, List.setIfInBounds_toArray, List.set_cons_zero, List.set_cons_succ]
                refine held_yes 15 (some 191) (.bool false) rfl rfl (by kernel_rfl) (by kernel_rfl) (by kernel_rfl) (fun _ _ _ h => h) rfl (fun w' hS => by obtain ⟨⟨s0, s1, s2⟩, ⟨s3, s4⟩, ⟨s5, s6, s7, s8⟩, ⟨s9, s10⟩, s11, s12, s13, s14⟩ := hS; go_simp) hHeld ?_
                try simp only [Act.put, List.setIfInBounds_toArray, List.set_cons_zero, List.set_cons_succ]
                refine held_yes 16 (some 192) (.bool false) rfl rfl (by kernel_rfl) (by kernel_rfl) (by kernel_rfl) (fun _ _ _ h => h) rfl (fun w' hS => by obtain ⟨⟨s0, s1, s2⟩, ⟨s3, s4⟩, ⟨s5, s6, s7, s8⟩, ⟨s9, s10⟩, s11, s12, s13, s14⟩ := hS; go_simp) hHeld ?_
                try simp only [Act.put, List.setIfInBounds_toArray, List.set_cons_zero, List.set_cons_succ]
                refine held_yes 17 (some 193) (.int .i64 k) rfl rfl (by kernel_rfl) (by kernel_rfl) (by kernel_rfl) (fun _ _ _ h => h) rfl (fun w' hS => by obtain ⟨⟨s0, s1, s2⟩, ⟨s3, s4⟩, ⟨s5, s6, s7, s8⟩, ⟨s9, s10⟩, s11, s12, s13, s14⟩ := hS; go_simp) hHeld ?_
                try simp only [Act.put, List.setIfInBounds_toArray, List.set_cons_zero, List.set_cons_succ]
                refine held_yes 18 (some 194) (.bool true) rfl rfl (by kernel_rfl) (by kernel_rfl) (by kernel_rfl) (fun _ _ _ h => h) rfl (fun w' hS => by obtain ⟨⟨s0, s1, s2⟩, ⟨s3, s4⟩, ⟨s5, s6, s7, s8⟩, ⟨s9, s10⟩, s11, s12, s13, s14⟩ := hS; go_simp) hHeld ?_
                try simp only [Act.put, List.setIfInBounds_toArray, List.set_cons_zero, List.set_cons_succ]
                refine held_yes 19 (some 195) (.bool true) rfl rfl (by kernel_rfl) (by kernel_rfl) (by kernel_rfl) (fun _ _ _ h => h) rfl (fun w' hS => by obtain ⟨⟨s0, s1, s2⟩, ⟨s3, s4⟩, ⟨s5, s6, s7, s8⟩, ⟨s9, s10⟩, s11, s12, s13, s14⟩ := hS; go_simp) hHeld ?_
                try simp only [Act.put, List.setIfInBounds_toArray, List.set_cons_zero, List.set_cons_succ]
                refine held_yes 20 (some 196) (.slice (some ⟨b, o, none⟩) l.length cap) rfl rfl (by kernel_rfl) (by kernel_rfl) (by kernel_rfl) (fun _ _ _ h => h) rfl (fun w' hS => by obtain ⟨⟨s0, s1, s2⟩, ⟨s3, s4⟩, ⟨s5, s6, s7, s8⟩, ⟨s9, s10⟩, s11, s12, s13, s14⟩ := hS; go_simp) hHeld ?_
                try simp only [Act.put, List.setIfInBounds_toArray, List.set_cons_zero, List.set_cons_succ]
                refine held_yes 21 (some 197) (.pointer (some ⟨w6.heap.size, 0, none⟩)) rfl rfl (by kernel_rfl) (by kernel_rfl) (by kernel_rfl) (fun _ _ _ h => h) rfl (fun w' hS => by obtain ⟨⟨s0, s1, s2⟩, ⟨s3, s4⟩, ⟨s5, s6, s7, s8⟩, ⟨s9, s10⟩, s11, s12, s13, s14⟩ := hS; go_simp) hHeld ?_
                try simp only [Act.put, List.setIfInBounds_toArray, List.set_cons_zero, List.set_cons_succ]
                refine held_yes 22 (some 198) (.int .i64 i) rfl rfl (by kernel_rfl) (by kernel_rfl) (by kernel_rfl) (fun _ _ _ h => h) rfl (fun w' hS => by obtain ⟨⟨s0, s1, s2⟩, ⟨s3, s4⟩, ⟨s5, s6, s7, s8⟩, ⟨s9, s10⟩, s11, s12, s13, s14⟩ := hS; go_simp) hHeld ?_
                try simp only [Act.put, List.setIfInBounds_toArray, List.set_cons_zero, List.set_cons_succ]
                refine held_yes 23 (some 199) (.pointer (some ⟨b, o + i * 4, none⟩)) rfl rfl (by kernel_rfl) (by kernel_rfl) (by kernel_rfl) (fun _ _ _ h => h) rfl (fun w' hS => by obtain ⟨⟨s0, s1, s2⟩, ⟨s3, s4⟩, ⟨s5, s6, s7, s8⟩, ⟨s9, s10⟩, s11, s12, s13, s14⟩ := hS; go_simp) hHeld ?_
                try simp only [Act.put, List.setIfInBounds_toArray, List.set_cons_zero, List.set_cons_succ]
                refine held_yes 24 (some 200) (.pointer (some ⟨b, o + i * 4 + 3, none⟩)) rfl rfl (by kernel_rfl) (by kernel_rfl) (by kernel_rfl) (fun _ _ _ h => h) rfl (fun w' hS => by obtain ⟨⟨s0, s1, s2⟩, ⟨s3, s4⟩, ⟨s5, s6, s7, s8⟩, ⟨s9, s10⟩, s11, s12, s13, s14⟩ := hS; go_simp) hHeld ?_
                try simp only [Act.put, List.setIfInBounds_toArray, List.set_cons_zero, List.set_cons_succ]
                refine held_yes 25 (some 201) (.int .i64 un) rfl rfl (by kernel_rfl) (by kernel_rfl) (by kernel_rfl) (fun _ _ _ h => h) rfl (fun w' hS => by obtain ⟨⟨s0, s1, s2⟩, ⟨s3, s4⟩, ⟨s5, s6, s7, s8⟩, ⟨s9, s10⟩, s11, s12, s13, s14⟩ := hS; go_simp) hHeld ?_
                try simp only [Act.put, List.setIfInBounds_toArray, List.set_cons_zero, List.set_cons_succ]
                refine held_yes 26 (some 202) (.slice (some ⟨b, o, none⟩) l.length cap) rfl rfl (by kernel_rfl) (by kernel_rfl) (by kernel_rfl) (fun _ _ _ h => h) rfl (fun w' hS => by obtain ⟨⟨s0, s1, s2⟩, ⟨s3, s4⟩, ⟨s5, s6, s7, s8⟩, ⟨s9, s10⟩, s11, s12, s13, s14⟩ := hS; go_simp) hHeld ?_
                try simp only [Act.put, List.setIfInBounds_toArray, List.set_cons_zero, List.set_cons_succ]
                refine held_yes 27 (some 203) (.slice (some ⟨ub, uo, none⟩) TT.length cU) rfl rfl (by kernel_rfl) (by kernel_rfl) (by kernel_rfl) (fun _ _ _ h => h) rfl (fun w' hS => by obtain ⟨⟨s0, s1, s2⟩, ⟨s3, s4⟩, ⟨s5, s6, s7, s8⟩, ⟨s9, s10⟩, s11, s12, s13, s14⟩ := hS; go_simp) hHeld ?_
                try simp only [Act.put, List.setIfInBounds_toArray, List.set_cons_zero, List.set_cons_succ]
                refine held_yes 28 (some 204) (.int .i64 k) rfl rfl (by kernel_rfl) (by kernel_rfl) (by kernel_rfl) (fun _ _ _ h => h) rfl (fun w' hS => by obtain ⟨⟨s0, s1, s2⟩, ⟨s3, s4⟩, ⟨s5, s6, s7, s8⟩, ⟨s9, s10⟩, s11, s12, s13, s14⟩ := hS; go_simp) hHeld ?_
                try simp only [Act.put, List.setIfInBounds_toArray, List.set_cons_zero, List.set_cons_succ]
                refine held_yes 29 (some 205) (.int .i64 j) rfl rfl (by kernel_rfl) (by kernel_rfl) (by kernel_rfl) (fun _ _ _ h => h) rfl (fun w' hS => by obtain ⟨⟨s0, s1, s2⟩, ⟨s3, s4⟩, ⟨s5, s6, s7, s8⟩, ⟨s9, s10⟩, s11, s12, s13, s14⟩ := hS; go_simp) hHeld ?_
                try simp only [Act.put, List.setIfInBounds_toArray, List.set_cons_zero, List.set_cons_succ]
                refine held_yes 30 (some 206) (.pointer (some ⟨ub, uo + j * 2, none⟩)) rfl rfl (by kernel_rfl) (by kernel_rfl) (by kernel_rfl) (fun _ _ _ h => h) rfl (fun w' hS => by obtain ⟨⟨s0, s1, s2⟩, ⟨s3, s4⟩, ⟨s5, s6, s7, s8⟩, ⟨s9, s10⟩, s11, s12, s13, s14⟩ := hS; go_simp) hHeld ?_
                try simp only [Act.put, List.setIfInBounds_toArray, List.set_cons_zero, List.set_cons_succ]
                refine held_yes 31 (some 207) (.pointer (some ⟨ub, uo + j * 2, none⟩)) rfl rfl (by kernel_rfl) (by kernel_rfl) (by kernel_rfl) (fun _ _ _ h => h) rfl (fun w' hS => by obtain ⟨⟨s0, s1, s2⟩, ⟨s3, s4⟩, ⟨s5, s6, s7, s8⟩, ⟨s9, s10⟩, s11, s12, s13, s14⟩ := hS; go_simp) hHeld ?_
                try simp only [Act.put, List.setIfInBounds_toArray, List.set_cons_zero, List.set_cons_succ]
                refine held_yes 32 (some 208) (.int .i64 ip) rfl rfl (by kernel_rfl) (by kernel_rfl) (by kernel_rfl) (fun _ _ _ h => h) rfl (fun w' hS => by obtain ⟨⟨s0, s1, s2⟩, ⟨s3, s4⟩, ⟨s5, s6, s7, s8⟩, ⟨s9, s10⟩, s11, s12, s13, s14⟩ := hS; go_simp) hHeld ?_
                try simp only [Act.put, List.setIfInBounds_toArray, List.set_cons_zero, List.set_cons_succ]
                refine held_yes 33 (some 209) (.pointer (some ⟨b, o + ip * 4, none⟩)) rfl rfl (by kernel_rfl) (by kernel_rfl) (by kernel_rfl) (fun _ _ _ h => h) rfl (fun w' hS => by obtain ⟨⟨s0, s1, s2⟩, ⟨s3, s4⟩, ⟨s5, s6, s7, s8⟩, ⟨s9, s10⟩, s11, s12, s13, s14⟩ := hS; go_simp) hHeld ?_
                try simp only [Act.put, List.setIfInBounds_toArray, List.set_cons_zero, List.set_cons_succ]
                refine held_yes 34 (some 210) (.pointer (some ⟨b, o + ip * 4 + 3, none⟩)) rfl rfl (by kernel_rfl) (by kernel_rfl) (by kernel_rfl) (fun _ _ _ h => h) rfl (fun w' hS => by obtain ⟨⟨s0, s1, s2⟩, ⟨s3, s4⟩, ⟨s5, s6, s7, s8⟩, ⟨s9, s10⟩, s11, s12, s13, s14⟩ := hS; go_simp) hHeld ?_
                try simp only [Act.put, List.setIfInBounds_toArray, List.set_cons_zero, List.set_cons_succ]
                refine held_yes 35 (some 211) (.int .i64 unp) rfl rfl (by kernel_rfl) (by kernel_rfl) (by kernel_rfl) (fun _ _ _ h => h) rfl (fun w' hS => by obtain ⟨⟨s0, s1, s2⟩, ⟨s3, s4⟩, ⟨s5, s6, s7, s8⟩, ⟨s9, s10⟩, s11, s12, s13, s14⟩ := hS; go_simp) hHeld ?_
                try simp only [Act.put, List.setIfInBounds_toArray, List.set_cons_zero, List.set_cons_succ]
                refine held_yes 36 (some 212) (.bool false) rfl rfl (by kernel_rfl) (by kernel_rfl) (by kernel_rfl) (fun _ _ _ h => h) rfl (fun w' hS => by obtain ⟨⟨s0, s1, s2⟩, ⟨s3, s4⟩, ⟨s5, s6, s7, s8⟩, ⟨s9, s10⟩, s11, s12, s13, s14⟩ := hS; go_simp) hHeld ?_
                try simp only [Act.put, List.setIfInBounds_toArray, List.set_cons_zero, List.set_cons_succ]
                refine held_yes 37 (some 213) (.bool false) rfl rfl (by kernel_rfl) (by kernel_rfl) (by kernel_rfl) (fun _ _ _ h => h) rfl (fun w' hS => by obtain ⟨⟨s0, s1, s2⟩, ⟨s3, s4⟩, ⟨s5, s6, s7, s8⟩, ⟨s9, s10⟩, s11, s12, s13, s14⟩ := hS; go_simp) hHeld ?_
                try simp only [Act.put, List.setIfInBounds_toArray, List.set_cons_zero, List.set_cons_succ]
                refine held_yes 38 (some 214) (.bool false) rfl rfl (by kernel_rfl) (by kernel_rfl) (by kernel_rfl) (fun _ _ _ h => h) rfl (fun w' hS => by obtain ⟨⟨s0, s1, s2⟩, ⟨s3, s4⟩, ⟨s5, s6, s7, s8⟩, ⟨s9, s10⟩, s11, s12, s13, s14⟩ := hS; go_simp) hHeld ?_
                try simp only [Act.put, List.setIfInBounds_toArray, List.set_cons_zero, List.set_cons_succ]
                have hX8 := hXt.trans (hD2.mono hXt.size)
                have HT8 := Lib.hid (show _ ∧ _ ∧ _ ∧ _ from ⟨(kt _ hD2).2.1.1, (kt _ hD2).2.1.2, Nat.lt_of_lt_of_le hlt6 hD2.size, (kt _ hD2).2.2.2⟩)
                generalize Wt.drew.drew = W8 at hX8 HT8 hD2 hHeld ⊢
                refine wpAnyH_done (by kernel_rfl) ?_ _
                clear hHeld
                obtain ⟨m0, m1, hgm, hMt⟩ := HT8.out
                obtain ⟨w9, hup, hM9, hg9m⟩ := updateI hMt i hni
                have hX9 := hX8.grown hg9m hX8.size (fun q hq => by injection hq with hq; omega)
                have y9 : w9.cell? ⟨w6.heap.size, 1, none⟩ = some (.int .i64 y) := (World.cell?_of_block (a := ⟨w6.heap.size, 1, none⟩) (hg9m.block _ hgm (by simp; omega))).trans m1
                have hz9 : mb < w9.heap.size := hM9.lt
                rw [← HSU.out] at hM9
                have HR := Lib.hid (And.intro hM9 (And.intro hX9 hz9))
                obtain ⟨ws1, ws2⟩ := HWS.out
                obtain ⟨wk1, wk2⟩ := HWK.out
                clear hMt hM9 hg9m hX9 hz9 m1 hgm HT8 hX8  hun hd1 hd2 hd3 hd4 hd5 hd6 hkb hlk1 hkl
                go_wp2_with fail
                go_roundw
                case rel => exact ⟨k + 1, HKK.out, by simp, by rw [HS2.out], HR.out.1, HR.out.2.1, HR.out.2.2⟩
                case measure => exact HKM.out
          · obtain ⟨w7, hw7⟩ : ∃ w7, w7 = w6 := ⟨_, rfl⟩
            rw [← hw7] at hMap hX hmz ⊢
            clear hw7
            rw [List.take_of_length_le (Nat.le_refl _)] at hMap ⊢
            have htot := HINV.out.tot
            dsimp only at htot
            have HTOT := Lib.hid (show sum2 TT = g0 by omega)
            clear htot
            have HX0 := Lib.hid (And.intro hMap hX)
            clear hMap hX hmz
            go_wp2_with fail
            go_loopw [225] (fun iv wr => ∃ i : Nat, i ≤ l.length ∧ iv = .int .i64 i ∧ IMX wr mb (TT.map (·.1)) ∧ Below V3.heap.size V3 wr) (fun iv _ => l.length - (intOf iv).toNat)
            case atStart => exact ⟨0, Nat.zero_le _, rfl, HX0.out.1, HX0.out.2⟩
            case round => as_aux_lemma =>
              clear HX0
              obtain ⟨i, hi, rfl, hMap, hX⟩ := hrel
              rename World => wa
              rcases Nat.lt_or_eq_of_le hi with hil | rfl
              · obtain ⟨⟨nm, kd, gr, un⟩, hc⟩ : ∃ t, l[i]? = some t := ⟨_, List.getElem?_eq_getElem hil⟩
                obtain ⟨b, o, rfl, -, -, r0, r1, r2, r3⟩ := bat_cells (ksl3 _ hX) hc
                dsimp only at r0 r1 r2 r3
                have hj0 : (0 : Int) ≤ i := by omega
                have hj1 : (i : Int) < l.length := by omega
                have HIK := Lib.hid (show i + 1 ≤ l.length from hil)
                have HIM := Lib.hid (show l.length - (i + 1) < l.length - i by omega)
                have HWI := Lib.hid (wrapsL (show i < 1048576 by omega))
                obtain ⟨Wa, hW⟩ : ∃ Wa, Wa = wa.alloc (.cells #[.string nm, .string kd, .int .i64 gr, .int .i64 un] 73) := ⟨_, rfl⟩
                have rA : RowK Wa 73 wa.heap.size [.string nm, .string kd, .int .i64 gr, .int .i64 un] := by subst hW; exact heap_alloc_new wa _
                have hXa : Below V3.heap.size V3 Wa := by subst hW; exact hX.alloc hX.size _
                have hMa : IMX Wa mb (TT.map (·.1)) := by subst hW; exact hMap.keep (Below.heap_alloc _ _ _ hMap.lt)
                have HC := Lib.hid hc
                have HS0 := Lib.hid (And.intro rA (And.intro hXa hMa))
                clear hX hMap hc rA hXa hMa hil hi
                go_wp2_with fail
                rw [← hW]
                clear hW r0 r1 r2 r3
                obtain ⟨rA, hXa, hMa⟩ := HS0.out
                generalize wa.heap.size = ga at rA ⊢
                have hgaW := rA.lt
                go_loopw [232] (fun jv wr => ∃ j : Nat, j ≤ TT.length ∧ jv = .int .i64 j ∧ IMX wr mb (TT.map (·.1)) ∧ Below Wa.heap.size Wa wr) (fun jv _ => TT.length - (intOf jv).toNat)
                case atStart => exact ⟨0, Nat.zero_le _, rfl, hMa, Below.refl _ _⟩
                case round => as_aux_lemma =>
                  clear hMa
                  obtain ⟨j, hj, rfl, hMb, hXb⟩ := hrel
                  rename World => wb
                  rcases Nat.lt_or_eq_of_le hj with hjn | rfl
                  · obtain ⟨⟨ip, yp⟩, hy⟩ : ∃ x, TT[j]? = some x := ⟨_, List.getElem?_eq_getElem hjn⟩
                    obtain ⟨ub, uo, rfl, -, -, u0, u1⟩ := tak_cells (ksk _ (hXa.trans (hXb.mono hXa.size))) hy
                    dsimp only at u0 u1
                    obtain ⟨-, hav, -, -⟩ := HINV.out.at_ _ (List.mem_of_getElem? hy)
                    dsimp only at hav
                    obtain ⟨⟨nmp, kdp, grp, unp⟩, hcp⟩ := avail_some hav
                    have hip : ip < l.length := (List.getElem?_eq_some_iff.1 hcp).1
                    have hp0 : (0 : Int) ≤ ip := by omega
                    have hp1 : (ip : Int) < l.length := by omega
                    have hq0 : (0 : Int) ≤ j := by omega
                    have hq1 : (j : Int) < TT.length := by omega
                    have HJJ := Lib.hid (show j + 1 ≤ TT.length from hjn)
                    have HJM := Lib.hid (show TT.length - (j + 1) < TT.length - j by omega)
                    have HWJ := Lib.hid (wrapsL (show j < 1048576 by have := HLP.out; omega))
                    have hleft : i ∉ TT.map (·.1) → (kd.toList == kind.toList) = true → decide (day ≤ un) = true → decide (0 < gr) = true → decide (un < unp) = false := fun h1 h2 h3 h4 => by
                      have h5 : i ∈ p := HPP.out i (List.getElem?_eq_some_iff.1 HC.out).1
                      have h6 : avail l kind day i = true := by
                        rw [avail_at HC.out]
                        unfold forB
                        simp only [h2, h3, Bool.and_self]
                      have h7 := (HINV.out.left i h5 h6 (by rw [gramsOf_at HC.out]; exact of_decide_eq_true h4) h1).2 _ (List.mem_of_getElem? hy)
                      rw [untilOf_at hcp, untilOf_at HC.out] at h7
                      dsimp only at h7
                      exact decide_eq_false (by omega)
                    obtain ⟨Wb, hW⟩ : ∃ Wb, Wb = wb.alloc (.cells #[.int .i64 (ip : Int), .int .i64 yp] 43) := ⟨_, rfl⟩
                    have rB : RowK Wb 43 wb.heap.size [.int .i64 (ip : Int), .int .i64 yp] := by subst hW; exact heap_alloc_new wb _
                    have hXw : Below Wa.heap.size Wa Wb := by subst hW; exact hXb.alloc hXb.size _
                    have hMw : IMX Wb mb (TT.map (·.1)) := by subst hW; exact hMb.keep (Below.heap_alloc _ _ _ hMb.lt)
                    have kt : ∀ V, Below Wb.heap.size Wb V → (V.cell? ⟨w.heap.size, 0, none⟩ = some (.string kind) ∧ V.cell? ⟨w.heap.size, 1, none⟩ = some (.int .i64 g0) ∧ V.cell? ⟨w.heap.size, 2, none⟩ = some (.int .i64 day)) ∧ (V.cell? ⟨ga, 0, none⟩ = some (.string nm) ∧ V.cell? ⟨ga, 1, none⟩ = some (.string kd) ∧ V.cell? ⟨ga, 2, none⟩ = some (.int .i64 gr) ∧ V.cell? ⟨ga, 3, none⟩ = some (.int .i64 un)) ∧ (V.cell? ⟨wb.heap.size, 0, none⟩ = some (.int .i64 (ip : Int)) ∧ V.cell? ⟨wb.heap.size, 1, none⟩ = some (.int .i64 yp)) ∧ (V.cell? ⟨b, o + ip * 4, none⟩ = some (.string nmp) ∧ V.cell? ⟨b, o + ip * 4 + 1, none⟩ = some (.string kdp) ∧ V.cell? ⟨b, o + ip * 4 + 2, none⟩ = some (.int .i64 grp) ∧ V.cell? ⟨b, o + ip * 4 + 3, none⟩ = some (.int .i64 unp)) ∧ IMX V mb (TT.map (·.1)) := fun V h => by
                      have hV2 := hXw.trans (h.mono hXw.size)
                      have hV := hXa.trans (hV2.mono hXa.size)
                      obtain ⟨b', o', e5, -, -, c0, c1, c2, c3⟩ := bat_cells (ksl3 _ hV) hcp
                      injection e5 with e5
                      injection e5 with e6 e7
                      subst e6 e7
                      exact ⟨kk3 _ hV, ⟨(rA.below hV2).cell (by rfl), (rA.below hV2).cell (by rfl), (rA.below hV2).cell (by rfl), (rA.below hV2).cell (by rfl)⟩, ⟨(rB.below h).cell (by rfl), (rB.below h).cell (by rfl)⟩, ⟨c0, c1, c2, c3⟩, hMw.keep (h.block mb hMw.lt)⟩
                    have hD := (Below.refl Wb.heap.size Wb).drew
                    have hXD := hXw.trans (hD.mono hXw.size)
                    have hMD := hMw.keep (hD.block mb hMw.lt)
                    clear hy hcp hip hav hjn hj hXb hMb hXw hMw rB
                    go_wp2_with fail
                    rw [← hW]
                    clear hW u0 u1
                    by_cases hin : i ∈ TT.map (·.1)
                    · as_aux_lemma =>
                      refine wp_region_held_drew (S := fun V => (V.cell? ⟨w.heap.size, 0, none⟩ = some (.string kind) ∧ V.cell? ⟨w.heap.size, 1, none⟩ = some (.int .i64 g0) ∧ V.cell? ⟨w.heap.size, 2, none⟩ = some (.int .i64 day)) ∧ (V.cell? ⟨ga, 0, none⟩ = some (.string nm) ∧ V.cell? ⟨ga, 1, none⟩ = some (.string kd) ∧ V.cell? ⟨ga, 2, none⟩ = some (.int .i64 gr) ∧ V.cell? ⟨ga, 3, none⟩ = some (.int .i64 un)) ∧ (V.cell? ⟨wb.heap.size, 0, none⟩ = some (.int .i64 (ip : Int)) ∧ V.cell? ⟨wb.heap.size, 1, none⟩ = some (.int .i64 yp)) ∧ (V.cell? ⟨b, o + ip * 4, none⟩ = some (.string nmp) ∧ V.cell? ⟨b, o + ip * 4 + 1, none⟩ = some (.string kdp) ∧ V.cell? ⟨b, o + ip * 4 + 2, none⟩ = some (.int .i64 grp) ∧ V.cell? ⟨b, o + ip * 4 + 3, none⟩ = some (.int .i64 unp)) ∧ IMX V mb (TT.map (·.1))) (by kernel_rfl) (kt _ hD) (fun hHeld => ?_)
                      refine held_yes 0 (some 236) (.map (some mb)) rfl rfl (by kernel_rfl) (by kernel_rfl) (by kernel_rfl) (fun _ _ _ h => h) rfl (fun w' hS => by obtain ⟨⟨s0, s1, s2⟩, ⟨s3, s4, s5, s6⟩, ⟨s7, s8⟩, ⟨s9, s10, s11, s12⟩, s13⟩ := hS; have hlk := lookupI_yes s13 i hin; go_simp) hHeld ?_
                      try simp only [Act.put, List.setIfInBounds_toArray, List.set_cons_zero, List.set_cons_succ]
                      refine held_yes 1 (some 237) (.int .i64 i) rfl rfl (by kernel_rfl) (by kernel_rfl) (by kernel_rfl) (fun _ _ _ h => h) rfl (fun w' hS => by obtain ⟨⟨s0, s1, s2⟩, ⟨s3, s4, s5, s6⟩, ⟨s7, s8⟩, ⟨s9, s10, s11, s12⟩, s13⟩ := hS; have hlk := lookupI_yes s13 i hin; go_simp) hHeld ?_
                      try simp only [Act.put, List.setIfInBounds_toArray, List.set_cons_zero, List.set_cons_succ]
                      refine held_yes 2 (some 238) (.bool true) rfl rfl (by kernel_rfl) (by kernel_rfl) (by kernel_rfl) (fun _ _ _ h => h) rfl (fun w' hS => by obtain ⟨⟨s0, s1, s2⟩, ⟨s3, s4, s5, s6⟩, ⟨s7, s8⟩, ⟨s9, s10, s11, s12⟩, s13⟩ := hS; have hlk := lookupI_yes s13 i hin; go_simp) hHeld ?_
                      try simp only [Act.put, List.setIfInBounds_toArray, List.set_cons_zero, List.set_cons_succ]
                      refine held_yes 3 (some 239) (.bool false) rfl rfl (by kernel_rfl) (by kernel_rfl) (by kernel_rfl) (fun _ _ _ h => h) rfl (fun w' hS => by obtain ⟨⟨s0, s1, s2⟩, ⟨s3, s4, s5, s6⟩, ⟨s7, s8⟩, ⟨s9, s10, s11, s12⟩, s13⟩ := hS; have hlk := lookupI_yes s13 i hin; go_simp) hHeld ?_
                      try simp only [Act.put, List.setIfInBounds_toArray, List.set_cons_zero, List.set_cons_succ]
                      refine held_yes 4 (some 240) (.bool false) rfl rfl (by kernel_rfl) (by kernel_rfl) (by kernel_rfl) (fun _ _ _ h => h) rfl (fun w' hS => by obtain ⟨⟨s0, s1, s2⟩, ⟨s3, s4, s5, s6⟩, ⟨s7, s8⟩, ⟨s9, s10, s11, s12⟩, s13⟩ := hS; have hlk := lookupI_yes s13 i hin; go_simp) hHeld ?_
                      try simp only [Act.put, List.setIfInBounds_toArray, List.set_cons_zero, List.set_cons_succ]
                      refine held_no 5 (some 241) rfl rfl (by kernel_rfl) (by kernel_rfl) (by kernel_rfl) (fun _ _ _ h => h) rfl hHeld ?_
                      try simp only [Act.put, List.setIfInBounds_toArray, List.set_cons_zero, List.set_cons_succ]
                      refine held_no 6 (some 242) rfl rfl (by kernel_rfl) (by kernel_rfl) (by kernel_rfl) (fun _ _ _ h => h) rfl hHeld ?_
                      try simp only [Act.put, List.setIfInBounds_toArray, List.set_cons_zero, List.set_cons_succ]
                      refine held_no 7 (some 243) rfl rfl (by kernel_rfl) (by kernel_rfl) (by kernel_rfl) (fun _ _ _ h => h) rfl hHeld ?_
                      try simp only [Act.put, List.setIfInBounds_toArray, List.set_cons_zero, List.set_cons_succ]
                      refine held_no 8 (some 244) rfl rfl (by kernel_rfl) (by kernel_rfl) (by kernel_rfl) (fun _ _ _ h => h) rfl hHeld ?_
                      try simp only [Act.put, List.setIfInBounds_toArray, List.set_cons_zero, List.set_cons_succ]
                      refine held_no 9 (some 245) rfl rfl (by kernel_rfl) (by kernel_rfl) (by kernel_rfl) (fun _ _ _ h => h) rfl hHeld ?_
                      try simp only [Act.put, List.setIfInBounds_toArray, List.set_cons_zero, List.set_cons_succ]
                      refine held_yes 10 (some 246) (.bool false) rfl rfl (by kernel_rfl) (by kernel_rfl) (by kernel_rfl) (fun _ _ _ h => h) rfl (fun w' hS => by obtain ⟨⟨s0, s1, s2⟩, ⟨s3, s4, s5, s6⟩, ⟨s7, s8⟩, ⟨s9, s10, s11, s12⟩, s13⟩ := hS; have hlk := lookupI_yes s13 i hin; go_simp) hHeld ?_
                      try simp only [Act.put, List.setIfInBounds_toArray, List.set_cons_zero, List.set_cons_succ]
                      refine held_yes 11 (some 247) (.bool false) rfl rfl (by kernel_rfl) (by kernel_rfl) (by kernel_rfl) (fun _ _ _ h => h) rfl (fun w' hS => by obtain ⟨⟨s0, s1, s2⟩, ⟨s3, s4, s5, s6⟩, ⟨s7, s8⟩, ⟨s9, s10, s11, s12⟩, s13⟩ := hS; have hlk := lookupI_yes s13 i hin; go_simp) hHeld ?_
                      try simp only [Act.put, List.setIfInBounds_toArray, List.set_cons_zero, List.set_cons_succ]
                      refine held_no 12 (some 248) rfl rfl (by kernel_rfl) (by kernel_rfl) (by kernel_rfl) (fun _ _ _ h => h) rfl hHeld ?_
                      try simp only [Act.put, List.setIfInBounds_toArray, List.set_cons_zero, List.set_cons_succ]
                      refine held_no 13 (some 249) rfl rfl (by kernel_rfl) (by kernel_rfl) (by kernel_rfl) (fun _ _ _ h => h) rfl hHeld ?_
                      try simp only [Act.put, List.setIfInBounds_toArray, List.set_cons_zero, List.set_cons_succ]
                      refine held_no 14 (some 250) rfl rfl (by kernel_rfl) (by kernel_rfl) (by kernel_rfl) (fun _ _ _ h => h) rfl hHeld ?_
                      try simp only [Act.put, List.setIfInBounds_toArray, List.set_cons_zero, List.set_cons_succ]
                      refine held_no 15 (some 251) rfl rfl (by kernel_rfl) (by kernel_rfl) (by kernel_rfl) (fun _ _ _ h => h) rfl hHeld ?_
                      try simp only [Act.put, List.setIfInBounds_toArray, List.set_cons_zero, List.set_cons_succ]
                      refine held_no 16 (some 252) rfl rfl (by kernel_rfl) (by kernel_rfl) (by kernel_rfl) (fun _ _ _ h => h) rfl hHeld ?_
                      try simp only [Act.put, List.setIfInBounds_toArray, List.set_cons_zero, List.set_cons_succ]
                      refine held_yes 17 (some 253) (.bool false) rfl rfl (by kernel_rfl) (by kernel_rfl) (by kernel_rfl) (fun _ _ _ h => h) rfl (fun w' hS => by obtain ⟨⟨s0, s1, s2⟩, ⟨s3, s4, s5, s6⟩, ⟨s7, s8⟩, ⟨s9, s10, s11, s12⟩, s13⟩ := hS; have hlk := lookupI_yes s13 i hin; go_simp) hHeld ?_
                      try simp only [Act.put, List.setIfInBounds_toArray, List.set_cons_zero, List.set_cons_succ]
                      refine held_yes 18 (some 254) (.bool false) rfl rfl (by kernel_rfl) (by kernel_rfl) (by kernel_rfl) (fun _ _ _ h => h) rfl (fun w' hS => by obtain ⟨⟨s0, s1, s2⟩, ⟨s3, s4, s5, s6⟩, ⟨s7, s8⟩, ⟨s9, s10, s11, s12⟩, s13⟩ := hS; have hlk := lookupI_yes s13 i hin; go_simp) hHeld ?_
                      try simp only [Act.put, List.setIfInBounds_toArray, List.set_cons_zero, List.set_cons_succ]
                      refine held_no 19 (some 255) rfl rfl (by kernel_rfl) (by kernel_rfl) (by kernel_rfl) (fun _ _ _ h => h) rfl hHeld ?_
                      try simp only [Act.put, List.setIfInBounds_toArray, List.set_cons_zero, List.set_cons_succ]
                      refine held_no 20 (some 256) rfl rfl (by kernel_rfl) (by kernel_rfl) (by kernel_rfl) (fun _ _ _ h => h) rfl hHeld ?_
                      try simp only [Act.put, List.setIfInBounds_toArray, List.set_cons_zero, List.set_cons_succ]
                      refine held_no 21 (some 257) rfl rfl (by kernel_rfl) (by kernel_rfl) (by kernel_rfl) (fun _ _ _ h => h) rfl hHeld ?_
                      try simp only [Act.put, List.setIfInBounds_toArray, List.set_cons_zero, List.set_cons_succ]
                      refine held_yes 22 (some 258) (.bool false) rfl rfl (by kernel_rfl) (by kernel_rfl) (by kernel_rfl) (fun _ _ _ h => h) rfl (fun w' hS => by obtain ⟨⟨s0, s1, s2⟩, ⟨s3, s4, s5, s6⟩, ⟨s7, s8⟩, ⟨s9, s10, s11, s12⟩, s13⟩ := hS; have hlk := lookupI_yes s13 i hin; go_simp) hHeld ?_
                      try simp only [Act.put, List.setIfInBounds_toArray, List.set_cons_zero, List.set_cons_succ]
                      refine held_yes 23 (some 259) (.bool false) rfl rfl (by kernel_rfl) (by kernel_rfl) (by kernel_rfl) (fun _ _ _ h => h) rfl (fun w' hS => by obtain ⟨⟨s0, s1, s2⟩, ⟨s3, s4, s5, s6⟩, ⟨s7, s8⟩, ⟨s9, s10, s11, s12⟩, s13⟩ := hS; have hlk := lookupI_yes s13 i hin; go_simp) hHeld ?_
                      try simp only [Act.put, List.setIfInBounds_toArray, List.set_cons_zero, List.set_cons_succ]
                      refine held_no 24 (some 260) rfl rfl (by kernel_rfl) (by kernel_rfl) (by kernel_rfl) (fun _ _ _ h => h) rfl hHeld ?_
                      try simp only [Act.put, List.setIfInBounds_toArray, List.set_cons_zero, List.set_cons_succ]
                      refine held_no 25 (some 261) rfl rfl (by kernel_rfl) (by kernel_rfl) (by kernel_rfl) (fun _ _ _ h => h) rfl hHeld ?_
                      try simp only [Act.put, List.setIfInBounds_toArray, List.set_cons_zero, List.set_cons_succ]
                      refine held_no 26 (some 262) rfl rfl (by kernel_rfl) (by kernel_rfl) (by kernel_rfl) (fun _ _ _ h => h) rfl hHeld ?_
                      try simp only [Act.put, List.setIfInBounds_toArray, List.set_cons_zero, List.set_cons_succ]
                      refine held_no 27 (some 263) rfl rfl (by kernel_rfl) (by kernel_rfl) (by kernel_rfl) (fun _ _ _ h => h) rfl hHeld ?_
                      try simp only [Act.put, List.setIfInBounds_toArray, List.set_cons_zero, List.set_cons_succ]
                      refine held_no 28 (some 264) rfl rfl (by kernel_rfl) (by kernel_rfl) (by kernel_rfl) (fun _ _ _ h => h) rfl hHeld ?_
                      try simp only [Act.put, List.setIfInBounds_toArray, List.set_cons_zero, List.set_cons_succ]
                      refine held_no 29 (some 265) rfl rfl (by kernel_rfl) (by kernel_rfl) (by kernel_rfl) (fun _ _ _ h => h) rfl hHeld ?_
                      try simp only [Act.put, List.setIfInBounds_toArray, List.set_cons_zero, List.set_cons_succ]
                      refine held_no 30 (some 266) rfl rfl (by kernel_rfl) (by kernel_rfl) (by kernel_rfl) (fun _ _ _ h => h) rfl hHeld ?_
                      try simp only [Act.put, List.setIfInBounds_toArray, List.set_cons_zero, List.set_cons_succ]
                      refine held_no 31 (some 267) rfl rfl (by kernel_rfl) (by kernel_rfl) (by kernel_rfl) (fun _ _ _ h => h) rfl hHeld ?_
                      try simp only [Act.put, List.setIfInBounds_toArray, List.set_cons_zero, List.set_cons_succ]
                      refine held_no 32 (some 268) rfl rfl (by kernel_rfl) (by kernel_rfl) (by kernel_rfl) (fun _ _ _ h => h) rfl hHeld ?_
                      try simp only [Act.put, List.setIfInBounds_toArray, List.set_cons_zero, List.set_cons_succ]
                      refine held_yes 33 (some 269) (.bool false) rfl rfl (by kernel_rfl) (by kernel_rfl) (by kernel_rfl) (fun _ _ _ h => h) rfl (fun w' hS => by obtain ⟨⟨s0, s1, s2⟩, ⟨s3, s4, s5, s6⟩, ⟨s7, s8⟩, ⟨s9, s10, s11, s12⟩, s13⟩ := hS; have hlk := lookupI_yes s13 i hin; go_simp) hHeld ?_
                      try simp only [Act.put, List.setIfInBounds_toArray, List.set_cons_zero, List.set_cons_succ]
                      refine wpAnyH_done (by kernel_rfl) ?_ _
                      clear hHeld kt
                      obtain ⟨wj1, wj2⟩ := HWJ.out
                      have HXD := Lib.hid hXD
                      have HMD := Lib.hid hMD
                      clear hXD hMD
                      go_wp2_with fail
                      go_roundw
                      case rel => exact ⟨j + 1, HJJ.out, by simp, HMD.out, HXD.out⟩
                      case measure => exact HJM.out
                    · obtain ⟨kb, hkb⟩ : ∃ kb, (kd.toList == kind.toList) = kb := ⟨_, rfl⟩
                      cases kb with
                      | false =>
                        as_aux_lemma =>
                        refine wp_region_held_drew (S := fun V => (V.cell? ⟨w.heap.size, 0, none⟩ = some (.string kind) ∧ V.cell? ⟨w.heap.size, 1, none⟩ = some (.int .i64 g0) ∧ V.cell? ⟨w.heap.size, 2, none⟩ = some (.int .i64 day)) ∧ (V.cell? ⟨ga, 0, none⟩ = some (.string nm) ∧ V.cell? ⟨ga, 1, none⟩ = some (.string kd) ∧ V.cell? ⟨ga, 2, none⟩ = some (.int .i64 gr) ∧ V.cell? ⟨ga, 3, none⟩ = some (.int .i64 un)) ∧ (V.cell? ⟨wb.heap.size, 0, none⟩ = some (.int .i64 (ip : Int)) ∧ V.cell? ⟨wb.heap.size, 1, none⟩ = some (.int .i64 yp)) ∧ (V.cell? ⟨b, o + ip * 4, none⟩ = some (.string nmp) ∧ V.cell? ⟨b, o + ip * 4 + 1, none⟩ = some (.string kdp) ∧ V.cell? ⟨b, o + ip * 4 + 2, none⟩ = some (.int .i64 grp) ∧ V.cell? ⟨b, o + ip * 4 + 3, none⟩ = some (.int .i64 unp)) ∧ IMX V mb (TT.map (·.1))) (by kernel_rfl) (kt _ hD) (fun hHeld => ?_)
                        refine held_yes 0 (some 236) (.map (some mb)) rfl rfl (by kernel_rfl) (by kernel_rfl) (by kernel_rfl) (fun _ _ _ h => h) rfl (fun w' hS => by obtain ⟨⟨s0, s1, s2⟩, ⟨s3, s4, s5, s6⟩, ⟨s7, s8⟩, ⟨s9, s10, s11, s12⟩, s13⟩ := hS; have hlk := lookupI_no s13 i hin; go_simp) hHeld ?_
                        try simp only [Act.put, List.setIfInBounds_toArray, List.set_cons_zero, List.set_cons_succ]
                        refine held_yes 1 (some 237) (.int .i64 i) rfl rfl (by kernel_rfl) (by kernel_rfl) (by kernel_rfl) (fun _ _ _ h => h) rfl (fun w' hS => by obtain ⟨⟨s0, s1, s2⟩, ⟨s3, s4, s5, s6⟩, ⟨s7, s8⟩, ⟨s9, s10, s11, s12⟩, s13⟩ := hS; have hlk := lookupI_no s13 i hin; go_simp) hHeld ?_
                        try simp only [Act.put, List.setIfInBounds_toArray, List.set_cons_zero, List.set_cons_succ]
                        refine held_yes 2 (some 238) (.bool false) rfl rfl (by kernel_rfl) (by kernel_rfl) (by kernel_rfl) (fun _ _ _ h => h) rfl (fun w' hS => by obtain ⟨⟨s0, s1, s2⟩, ⟨s3, s4, s5, s6⟩, ⟨s7, s8⟩, ⟨s9, s10, s11, s12⟩, s13⟩ := hS; have hlk := lookupI_no s13 i hin; go_simp) hHeld ?_
                        try simp only [Act.put, List.setIfInBounds_toArray, List.set_cons_zero, List.set_cons_succ]
                        refine held_yes 3 (some 239) (.bool true) rfl rfl (by kernel_rfl) (by kernel_rfl) (by kernel_rfl) (fun _ _ _ h => h) rfl (fun w' hS => by obtain ⟨⟨s0, s1, s2⟩, ⟨s3, s4, s5, s6⟩, ⟨s7, s8⟩, ⟨s9, s10, s11, s12⟩, s13⟩ := hS; have hlk := lookupI_no s13 i hin; go_simp) hHeld ?_
                        try simp only [Act.put, List.setIfInBounds_toArray, List.set_cons_zero, List.set_cons_succ]
                        refine held_yes 4 (some 240) (.bool true) rfl rfl (by kernel_rfl) (by kernel_rfl) (by kernel_rfl) (fun _ _ _ h => h) rfl (fun w' hS => by obtain ⟨⟨s0, s1, s2⟩, ⟨s3, s4, s5, s6⟩, ⟨s7, s8⟩, ⟨s9, s10, s11, s12⟩, s13⟩ := hS; have hlk := lookupI_no s13 i hin; go_simp) hHeld ?_
                        try simp only [Act.put, List.setIfInBounds_toArray, List.set_cons_zero, List.set_cons_succ]
                        refine held_yes 5 (some 241) (.pointer (some ⟨ga, 1, none⟩)) rfl rfl (by kernel_rfl) (by kernel_rfl) (by kernel_rfl) (fun _ _ _ h => h) rfl (fun w' hS => by obtain ⟨⟨s0, s1, s2⟩, ⟨s3, s4, s5, s6⟩, ⟨s7, s8⟩, ⟨s9, s10, s11, s12⟩, s13⟩ := hS; have hlk := lookupI_no s13 i hin; go_simp) hHeld ?_
                        try simp only [Act.put, List.setIfInBounds_toArray, List.set_cons_zero, List.set_cons_succ]
                        refine held_yes 6 (some 242) (.string kd) rfl rfl (by kernel_rfl) (by kernel_rfl) (by kernel_rfl) (fun _ _ _ h => h) rfl (fun w' hS => by obtain ⟨⟨s0, s1, s2⟩, ⟨s3, s4, s5, s6⟩, ⟨s7, s8⟩, ⟨s9, s10, s11, s12⟩, s13⟩ := hS; have hlk := lookupI_no s13 i hin; go_simp) hHeld ?_
                        try simp only [Act.put, List.setIfInBounds_toArray, List.set_cons_zero, List.set_cons_succ]
                        refine held_yes 7 (some 243) (.pointer (some ⟨w.heap.size, 0, none⟩)) rfl rfl (by kernel_rfl) (by kernel_rfl) (by kernel_rfl) (fun _ _ _ h => h) rfl (fun w' hS => by obtain ⟨⟨s0, s1, s2⟩, ⟨s3, s4, s5, s6⟩, ⟨s7, s8⟩, ⟨s9, s10, s11, s12⟩, s13⟩ := hS; have hlk := lookupI_no s13 i hin; go_simp) hHeld ?_
                        try simp only [Act.put, List.setIfInBounds_toArray, List.set_cons_zero, List.set_cons_succ]
                        refine held_yes 8 (some 244) (.string kind) rfl rfl (by kernel_rfl) (by kernel_rfl) (by kernel_rfl) (fun _ _ _ h => h) rfl (fun w' hS => by obtain ⟨⟨s0, s1, s2⟩, ⟨s3, s4, s5, s6⟩, ⟨s7, s8⟩, ⟨s9, s10, s11, s12⟩, s13⟩ := hS; have hlk := lookupI_no s13 i hin; go_simp) hHeld ?_
                        try simp only [Act.put, List.setIfInBounds_toArray, List.set_cons_zero, List.set_cons_succ]
                        refine held_yes 9 (some 245) (.bool false) rfl rfl (by kernel_rfl) (by kernel_rfl) (by kernel_rfl) (fun _ _ _ h => h) rfl (fun w' hS => by obtain ⟨⟨s0, s1, s2⟩, ⟨s3, s4, s5, s6⟩, ⟨s7, s8⟩, ⟨s9, s10, s11, s12⟩, s13⟩ := hS; have hlk := lookupI_no s13 i hin; go_simp) hHeld ?_
                        try simp only [Act.put, List.setIfInBounds_toArray, List.set_cons_zero, List.set_cons_succ]
                        refine held_yes 10 (some 246) (.bool false) rfl rfl (by kernel_rfl) (by kernel_rfl) (by kernel_rfl) (fun _ _ _ h => h) rfl (fun w' hS => by obtain ⟨⟨s0, s1, s2⟩, ⟨s3, s4, s5, s6⟩, ⟨s7, s8⟩, ⟨s9, s10, s11, s12⟩, s13⟩ := hS; have hlk := lookupI_no s13 i hin; go_simp) hHeld ?_
                        try simp only [Act.put, List.setIfInBounds_toArray, List.set_cons_zero, List.set_cons_succ]
                        refine held_yes 11 (some 247) (.bool false) rfl rfl (by kernel_rfl) (by kernel_rfl) (by kernel_rfl) (fun _ _ _ h => h) rfl (fun w' hS => by obtain ⟨⟨s0, s1, s2⟩, ⟨s3, s4, s5, s6⟩, ⟨s7, s8⟩, ⟨s9, s10, s11, s12⟩, s13⟩ := hS; have hlk := lookupI_no s13 i hin; go_simp) hHeld ?_
                        try simp only [Act.put, List.setIfInBounds_toArray, List.set_cons_zero, List.set_cons_succ]
                        refine held_no 12 (some 248) rfl rfl (by kernel_rfl) (by kernel_rfl) (by kernel_rfl) (fun _ _ _ h => h) rfl hHeld ?_
                        try simp only [Act.put, List.setIfInBounds_toArray, List.set_cons_zero, List.set_cons_succ]
                        refine held_no 13 (some 249) rfl rfl (by kernel_rfl) (by kernel_rfl) (by kernel_rfl) (fun _ _ _ h => h) rfl hHeld ?_
                        try simp only [Act.put, List.setIfInBounds_toArray, List.set_cons_zero, List.set_cons_succ]
                        refine held_no 14 (some 250) rfl rfl (by kernel_rfl) (by kernel_rfl) (by kernel_rfl) (fun _ _ _ h => h) rfl hHeld ?_
                        try simp only [Act.put, List.setIfInBounds_toArray, List.set_cons_zero, List.set_cons_succ]
                        refine held_no 15 (some 251) rfl rfl (by kernel_rfl) (by kernel_rfl) (by kernel_rfl) (fun _ _ _ h => h) rfl hHeld ?_
                        try simp only [Act.put, List.setIfInBounds_toArray, List.set_cons_zero, List.set_cons_succ]
                        refine held_no 16 (some 252) rfl rfl (by kernel_rfl) (by kernel_rfl) (by kernel_rfl) (fun _ _ _ h => h) rfl hHeld ?_
                        try simp only [Act.put, List.setIfInBounds_toArray, List.set_cons_zero, List.set_cons_succ]
                        refine held_yes 17 (some 253) (.bool false) rfl rfl (by kernel_rfl) (by kernel_rfl) (by kernel_rfl) (fun _ _ _ h => h) rfl (fun w' hS => by obtain ⟨⟨s0, s1, s2⟩, ⟨s3, s4, s5, s6⟩, ⟨s7, s8⟩, ⟨s9, s10, s11, s12⟩, s13⟩ := hS; have hlk := lookupI_no s13 i hin; go_simp) hHeld ?_
                        try simp only [Act.put, List.setIfInBounds_toArray, List.set_cons_zero, List.set_cons_succ]
                        refine held_yes 18 (some 254) (.bool false) rfl rfl (by kernel_rfl) (by kernel_rfl) (by kernel_rfl) (fun _ _ _ h => h) rfl (fun w' hS => by obtain ⟨⟨s0, s1, s2⟩, ⟨s3, s4, s5, s6⟩, ⟨s7, s8⟩, ⟨s9, s10, s11, s12⟩, s13⟩ := hS; have hlk := lookupI_no s13 i hin; go_simp) hHeld ?_
                        try simp only [Act.put, List.setIfInBounds_toArray, List.set_cons_zero, List.set_cons_succ]
                        refine held_no 19 (some 255) rfl rfl (by kernel_rfl) (by kernel_rfl) (by kernel_rfl) (fun _ _ _ h => h) rfl hHeld ?_
                        try simp only [Act.put, List.setIfInBounds_toArray, List.set_cons_zero, List.set_cons_succ]
                        refine held_no 20 (some 256) rfl rfl (by kernel_rfl) (by kernel_rfl) (by kernel_rfl) (fun _ _ _ h => h) rfl hHeld ?_
                        try simp only [Act.put, List.setIfInBounds_toArray, List.set_cons_zero, List.set_cons_succ]
                        refine held_no 21 (some 257) rfl rfl (by kernel_rfl) (by kernel_rfl) (by kernel_rfl) (fun _ _ _ h => h) rfl hHeld ?_
                        try simp only [Act.put, List.setIfInBounds_toArray, List.set_cons_zero, List.set_cons_succ]
                        refine held_yes 22 (some 258) (.bool false) rfl rfl (by kernel_rfl) (by kernel_rfl) (by kernel_rfl) (fun _ _ _ h => h) rfl (fun w' hS => by obtain ⟨⟨s0, s1, s2⟩, ⟨s3, s4, s5, s6⟩, ⟨s7, s8⟩, ⟨s9, s10, s11, s12⟩, s13⟩ := hS; have hlk := lookupI_no s13 i hin; go_simp) hHeld ?_
                        try simp only [Act.put, List.setIfInBounds_toArray, List.set_cons_zero, List.set_cons_succ]
                        refine held_yes 23 (some 259) (.bool false) rfl rfl (by kernel_rfl) (by kernel_rfl) (by kernel_rfl) (fun _ _ _ h => h) rfl (fun w' hS => by obtain ⟨⟨s0, s1, s2⟩, ⟨s3, s4, s5, s6⟩, ⟨s7, s8⟩, ⟨s9, s10, s11, s12⟩, s13⟩ := hS; have hlk := lookupI_no s13 i hin; go_simp) hHeld ?_
                        try simp only [Act.put, List.setIfInBounds_toArray, List.set_cons_zero, List.set_cons_succ]
                        refine held_no 24 (some 260) rfl rfl (by kernel_rfl) (by kernel_rfl) (by kernel_rfl) (fun _ _ _ h => h) rfl hHeld ?_
                        try simp only [Act.put, List.setIfInBounds_toArray, List.set_cons_zero, List.set_cons_succ]
                        refine held_no 25 (some 261) rfl rfl (by kernel_rfl) (by kernel_rfl) (by kernel_rfl) (fun _ _ _ h => h) rfl hHeld ?_
                        try simp only [Act.put, List.setIfInBounds_toArray, List.set_cons_zero, List.set_cons_succ]
                        refine held_no 26 (some 262) rfl rfl (by kernel_rfl) (by kernel_rfl) (by kernel_rfl) (fun _ _ _ h => h) rfl hHeld ?_
                        try simp only [Act.put, List.setIfInBounds_toArray, List.set_cons_zero, List.set_cons_succ]
                        refine held_no 27 (some 263) rfl rfl (by kernel_rfl) (by kernel_rfl) (by kernel_rfl) (fun _ _ _ h => h) rfl hHeld ?_
                        try simp only [Act.put, List.setIfInBounds_toArray, List.set_cons_zero, List.set_cons_succ]
                        refine held_no 28 (some 264) rfl rfl (by kernel_rfl) (by kernel_rfl) (by kernel_rfl) (fun _ _ _ h => h) rfl hHeld ?_
                        try simp only [Act.put, List.setIfInBounds_toArray, List.set_cons_zero, List.set_cons_succ]
                        refine held_no 29 (some 265) rfl rfl (by kernel_rfl) (by kernel_rfl) (by kernel_rfl) (fun _ _ _ h => h) rfl hHeld ?_
                        try simp only [Act.put, List.setIfInBounds_toArray, List.set_cons_zero, List.set_cons_succ]
                        refine held_no 30 (some 266) rfl rfl (by kernel_rfl) (by kernel_rfl) (by kernel_rfl) (fun _ _ _ h => h) rfl hHeld ?_
                        try simp only [Act.put, List.setIfInBounds_toArray, List.set_cons_zero, List.set_cons_succ]
                        refine held_no 31 (some 267) rfl rfl (by kernel_rfl) (by kernel_rfl) (by kernel_rfl) (fun _ _ _ h => h) rfl hHeld ?_
                        try simp only [Act.put, List.setIfInBounds_toArray, List.set_cons_zero, List.set_cons_succ]
                        refine held_no 32 (some 268) rfl rfl (by kernel_rfl) (by kernel_rfl) (by kernel_rfl) (fun _ _ _ h => h) rfl hHeld ?_
                        try simp only [Act.put, List.setIfInBounds_toArray, List.set_cons_zero, List.set_cons_succ]
                        refine held_yes 33 (some 269) (.bool false) rfl rfl (by kernel_rfl) (by kernel_rfl) (by kernel_rfl) (fun _ _ _ h => h) rfl (fun w' hS => by obtain ⟨⟨s0, s1, s2⟩, ⟨s3, s4, s5, s6⟩, ⟨s7, s8⟩, ⟨s9, s10, s11, s12⟩, s13⟩ := hS; have hlk := lookupI_no s13 i hin; go_simp) hHeld ?_
                        try simp only [Act.put, List.setIfInBounds_toArray, List.set_cons_zero, List.set_cons_succ]
                        refine wpAnyH_done (by kernel_rfl) ?_ _
                        clear hHeld kt
                        obtain ⟨wj1, wj2⟩ := HWJ.out
                        have HXD := Lib.hid hXD
                        have HMD := Lib.hid hMD
                        clear hXD hMD
                        go_wp2_with fail
                        go_roundw
                        case rel => exact ⟨j + 1, HJJ.out, by simp, HMD.out, HXD.out⟩
                        case measure => exact HJM.out
                      | true =>
                      obtain ⟨db, hdb⟩ : ∃ db, decide (day ≤ un) = db := ⟨_, rfl⟩
                      cases db with
                      | false =>
                        as_aux_lemma =>
                        refine wp_region_held_drew (S := fun V => (V.cell? ⟨w.heap.size, 0, none⟩ = some (.string kind) ∧ V.cell? ⟨w.heap.size, 1, none⟩ = some (.int .i64 g0) ∧ V.cell? ⟨w.heap.size, 2, none⟩ = some (.int .i64 day)) ∧ (V.cell? ⟨ga, 0, none⟩ = some (.string nm) ∧ V.cell? ⟨ga, 1, none⟩ = some (.string kd) ∧ V.cell? ⟨ga, 2, none⟩ = some (.int .i64 gr) ∧ V.cell? ⟨ga, 3, none⟩ = some (.int .i64 un)) ∧ (V.cell? ⟨wb.heap.size, 0, none⟩ = some (.int .i64 (ip : Int)) ∧ V.cell? ⟨wb.heap.size, 1, none⟩ = some (.int .i64 yp)) ∧ (V.cell? ⟨b, o + ip * 4, none⟩ = some (.string nmp) ∧ V.cell? ⟨b, o + ip * 4 + 1, none⟩ = some (.string kdp) ∧ V.cell? ⟨b, o + ip * 4 + 2, none⟩ = some (.int .i64 grp) ∧ V.cell? ⟨b, o + ip * 4 + 3, none⟩ = some (.int .i64 unp)) ∧ IMX V mb (TT.map (·.1))) (by kernel_rfl) (kt _ hD) (fun hHeld => ?_)
                        refine held_yes 0 (some 236) (.map (some mb)) rfl rfl (by kernel_rfl) (by kernel_rfl) (by kernel_rfl) (fun _ _ _ h => h) rfl (fun w' hS => by obtain ⟨⟨s0, s1, s2⟩, ⟨s3, s4, s5, s6⟩, ⟨s7, s8⟩, ⟨s9, s10, s11, s12⟩, s13⟩ := hS; have hlk := lookupI_no s13 i hin; go_simp) hHeld ?_
                        try simp only [Act.put, List.setIfInBounds_toArray, List.set_cons_zero, List.set_cons_succ]
                        refine held_yes 1 (some 237) (.int .i64 i) rfl rfl (by kernel_rfl) (by kernel_rfl) (by kernel_rfl) (fun _ _ _ h => h) rfl (fun w' hS => by obtain ⟨⟨s0, s1, s2⟩, ⟨s3, s4, s5, s6⟩, ⟨s7, s8⟩, ⟨s9, s10, s11, s12⟩, s13⟩ := hS; have hlk := lookupI_no s13 i hin; go_simp) hHeld ?_
                        try simp only [Act.put, List.setIfInBounds_toArray, List.set_cons_zero, List.set_cons_succ]
                        refine held_yes 2 (some 238) (.bool false) rfl rfl (by kernel_rfl) (by kernel_rfl) (by kernel_rfl) (fun _ _ _ h => h) rfl (fun w' hS => by obtain ⟨⟨s0, s1, s2⟩, ⟨s3, s4, s5, s6⟩, ⟨s7, s8⟩, ⟨s9, s10, s11, s12⟩, s13⟩ := hS; have hlk := lookupI_no s13 i hin; go_simp) hHeld ?_
                        try simp only [Act.put, List.setIfInBounds_toArray, List.set_cons_zero, List.set_cons_succ]
                        refine held_yes 3 (some 239) (.bool true) rfl rfl (by kernel_rfl) (by kernel_rfl) (by kernel_rfl) (fun _ _ _ h => h) rfl (fun w' hS => by obtain ⟨⟨s0, s1, s2⟩, ⟨s3, s4, s5, s6⟩, ⟨s7, s8⟩, ⟨s9, s10, s11, s12⟩, s13⟩ := hS; have hlk := lookupI_no s13 i hin; go_simp) hHeld ?_
                        try simp only [Act.put, List.setIfInBounds_toArray, List.set_cons_zero, List.set_cons_succ]
                        refine held_yes 4 (some 240) (.bool true) rfl rfl (by kernel_rfl) (by kernel_rfl) (by kernel_rfl) (fun _ _ _ h => h) rfl (fun w' hS => by obtain ⟨⟨s0, s1, s2⟩, ⟨s3, s4, s5, s6⟩, ⟨s7, s8⟩, ⟨s9, s10, s11, s12⟩, s13⟩ := hS; have hlk := lookupI_no s13 i hin; go_simp) hHeld ?_
                        try simp only [Act.put, List.setIfInBounds_toArray, List.set_cons_zero, List.set_cons_succ]
                        refine held_yes 5 (some 241) (.pointer (some ⟨ga, 1, none⟩)) rfl rfl (by kernel_rfl) (by kernel_rfl) (by kernel_rfl) (fun _ _ _ h => h) rfl (fun w' hS => by obtain ⟨⟨s0, s1, s2⟩, ⟨s3, s4, s5, s6⟩, ⟨s7, s8⟩, ⟨s9, s10, s11, s12⟩, s13⟩ := hS; have hlk := lookupI_no s13 i hin; go_simp) hHeld ?_
                        try simp only [Act.put, List.setIfInBounds_toArray, List.set_cons_zero, List.set_cons_succ]
                        refine held_yes 6 (some 242) (.string kd) rfl rfl (by kernel_rfl) (by kernel_rfl) (by kernel_rfl) (fun _ _ _ h => h) rfl (fun w' hS => by obtain ⟨⟨s0, s1, s2⟩, ⟨s3, s4, s5, s6⟩, ⟨s7, s8⟩, ⟨s9, s10, s11, s12⟩, s13⟩ := hS; have hlk := lookupI_no s13 i hin; go_simp) hHeld ?_
                        try simp only [Act.put, List.setIfInBounds_toArray, List.set_cons_zero, List.set_cons_succ]
                        refine held_yes 7 (some 243) (.pointer (some ⟨w.heap.size, 0, none⟩)) rfl rfl (by kernel_rfl) (by kernel_rfl) (by kernel_rfl) (fun _ _ _ h => h) rfl (fun w' hS => by obtain ⟨⟨s0, s1, s2⟩, ⟨s3, s4, s5, s6⟩, ⟨s7, s8⟩, ⟨s9, s10, s11, s12⟩, s13⟩ := hS; have hlk := lookupI_no s13 i hin; go_simp) hHeld ?_
                        try simp only [Act.put, List.setIfInBounds_toArray, List.set_cons_zero, List.set_cons_succ]
                        refine held_yes 8 (some 244) (.string kind) rfl rfl (by kernel_rfl) (by kernel_rfl) (by kernel_rfl) (fun _ _ _ h => h) rfl (fun w' hS => by obtain ⟨⟨s0, s1, s2⟩, ⟨s3, s4, s5, s6⟩, ⟨s7, s8⟩, ⟨s9, s10, s11, s12⟩, s13⟩ := hS; have hlk := lookupI_no s13 i hin; go_simp) hHeld ?_
                        try simp only [Act.put, List.setIfInBounds_toArray, List.set_cons_zero, List.set_cons_succ]
                        refine held_yes 9 (some 245) (.bool true) rfl rfl (by kernel_rfl) (by kernel_rfl) (by kernel_rfl) (fun _ _ _ h => h) rfl (fun w' hS => by obtain ⟨⟨s0, s1, s2⟩, ⟨s3, s4, s5, s6⟩, ⟨s7, s8⟩, ⟨s9, s10, s11, s12⟩, s13⟩ := hS; have hlk := lookupI_no s13 i hin; go_simp) hHeld ?_
                        try simp only [Act.put, List.setIfInBounds_toArray, List.set_cons_zero, List.set_cons_succ]
                        refine held_yes 10 (some 246) (.bool true) rfl rfl (by kernel_rfl) (by kernel_rfl) (by kernel_rfl) (fun _ _ _ h => h) rfl (fun w' hS => by obtain ⟨⟨s0, s1, s2⟩, ⟨s3, s4, s5, s6⟩, ⟨s7, s8⟩, ⟨s9, s10, s11, s12⟩, s13⟩ := hS; have hlk := lookupI_no s13 i hin; go_simp) hHeld ?_
                        try simp only [Act.put, List.setIfInBounds_toArray, List.set_cons_zero, List.set_cons_succ]
                        refine held_yes 11 (some 247) (.bool true) rfl rfl (by kernel_rfl) (by kernel_rfl) (by kernel_rfl) (fun _ _ _ h => h) rfl (fun w' hS => by obtain ⟨⟨s0, s1, s2⟩, ⟨s3, s4, s5, s6⟩, ⟨s7, s8⟩, ⟨s9, s10, s11, s12⟩, s13⟩ := hS; have hlk := lookupI_no s13 i hin; go_simp) hHeld ?_
                        try simp only [Act.put, List.setIfInBounds_toArray, List.set_cons_zero, List.set_cons_succ]
                        refine held_yes 12 (some 248) (.pointer (some ⟨ga, 3, none⟩)) rfl rfl (by kernel_rfl) (by kernel_rfl) (by kernel_rfl) (fun _ _ _ h => h) rfl (fun w' hS => by obtain ⟨⟨s0, s1, s2⟩, ⟨s3, s4, s5, s6⟩, ⟨s7, s8⟩, ⟨s9, s10, s11, s12⟩, s13⟩ := hS; have hlk := lookupI_no s13 i hin; go_simp) hHeld ?_
                        try simp only [Act.put, List.setIfInBounds_toArray, List.set_cons_zero, List.set_cons_succ]
                        refine held_yes 13 (some 249) (.int .i64 un) rfl rfl (by kernel_rfl) (by kernel_rfl) (by kernel_rfl) (fun _ _ _ h => h) rfl (fun w' hS => by obtain ⟨⟨s0, s1, s2⟩, ⟨s3, s4, s5, s6⟩, ⟨s7, s8⟩, ⟨s9, s10, s11, s12⟩, s13⟩ := hS; have hlk := lookupI_no s13 i hin; go_simp) hHeld ?_
                        try simp only [Act.put, List.setIfInBounds_toArray, List.set_cons_zero, List.set_cons_succ]
                        refine held_yes 14 (some 250) (.pointer (some ⟨w.heap.size, 2, none⟩)) rfl rfl (by kernel_rfl) (by kernel_rfl) (by kernel_rfl) (fun _ _ _ h => h) rfl (fun w' hS => by obtain ⟨⟨s0, s1, s2⟩, ⟨s3, s4, s5, s6⟩, ⟨s7, s8⟩, ⟨s9, s10, s11, s12⟩, s13⟩ := hS; have hlk := lookupI_no s13 i hin; go_simp) hHeld ?_
                        try simp only [Act.put, List.setIfInBounds_toArray, List.set_cons_zero, List.set_cons_succ]
                        refine held_yes 15 (some 251) (.int .i64 day) rfl rfl (by kernel_rfl) (by kernel_rfl) (by kernel_rfl) (fun _ _ _ h => h) rfl (fun w' hS => by obtain ⟨⟨s0, s1, s2⟩, ⟨s3, s4, s5, s6⟩, ⟨s7, s8⟩, ⟨s9, s10, s11, s12⟩, s13⟩ := hS; have hlk := lookupI_no s13 i hin; go_simp) hHeld ?_
                        try simp only [Act.put, List.setIfInBounds_toArray, List.set_cons_zero, List.set_cons_succ]
                        refine held_yes 16 (some 252) (.bool false) rfl rfl (by kernel_rfl) (by kernel_rfl) (by kernel_rfl) (fun _ _ _ h => h) rfl (fun w' hS => by obtain ⟨⟨s0, s1, s2⟩, ⟨s3, s4, s5, s6⟩, ⟨s7, s8⟩, ⟨s9, s10, s11, s12⟩, s13⟩ := hS; have hlk := lookupI_no s13 i hin; go_simp) hHeld ?_
                        try simp only [Act.put, List.setIfInBounds_toArray, List.set_cons_zero, List.set_cons_succ]
                        refine held_yes 17 (some 253) (.bool false) rfl rfl (by kernel_rfl) (by kernel_rfl) (by kernel_rfl) (fun _ _ _ h => h) rfl (fun w' hS => by obtain ⟨⟨s0, s1, s2⟩, ⟨s3, s4, s5, s6⟩, ⟨s7, s8⟩, ⟨s9, s10, s11, s12⟩, s13⟩ := hS; have hlk := lookupI_no s13 i hin; go_simp) hHeld ?_
                        try simp only [Act.put, List.setIfInBounds_toArray, List.set_cons_zero, List.set_cons_succ]
                        refine held_yes 18 (some 254) (.bool false) rfl rfl (by kernel_rfl) (by kernel_rfl) (by kernel_rfl) (fun _ _ _ h => h) rfl (fun w' hS => by obtain ⟨⟨s0, s1, s2⟩, ⟨s3, s4, s5, s6⟩, ⟨s7, s8⟩, ⟨s9, s10, s11, s12⟩, s13⟩ := hS; have hlk := lookupI_no s13 i hin; go_simp) hHeld ?_
                        try simp only [Act.put, List.setIfInBounds_toArray, List.set_cons_zero, List.set_cons_succ]
                        refine held_no 19 (some 255) rfl rfl (by kernel_rfl) (by kernel_rfl) (by kernel_rfl) (fun _ _ _ h => h) rfl hHeld ?_
                        try simp only [Act.put, List.setIfInBounds_toArray, List.set_cons_zero, List.set_cons_succ]
                        refine held_no 20 (some 256) rfl rfl (by kernel_rfl) (by kernel_rfl) (by kernel_rfl) (fun _ _ _ h => h) rfl hHeld ?_
                        try simp only [Act.put, List.setIfInBounds_toArray, List.set_cons_zero, List.set_cons_succ]
                        refine held_no 21 (some 257) rfl rfl (by kernel_rfl) (by kernel_rfl) (by kernel_rfl) (fun _ _ _ h => h) rfl hHeld ?_
                        try simp only [Act.put, List.setIfInBounds_toArray, List.set_cons_zero, List.set_cons_succ]
                        refine held_yes 22 (some 258) (.bool false) rfl rfl (by kernel_rfl) (by kernel_rfl) (by kernel_rfl) (fun _ _ _ h => h) rfl (fun w' hS => by obtain ⟨⟨s0, s1, s2⟩, ⟨s3, s4, s5, s6⟩, ⟨s7, s8⟩, ⟨s9, s10, s11, s12⟩, s13⟩ := hS; have hlk := lookupI_no s13 i hin; go_simp) hHeld ?_
                        try simp only [Act.put, List.setIfInBounds_toArray, List.set_cons_zero, List.set_cons_succ]
                        refine held_yes 23 (some 259) (.bool false) rfl rfl (by kernel_rfl) (by kernel_rfl) (by kernel_rfl) (fun _ _ _ h => h) rfl (fun w' hS => by obtain ⟨⟨s0, s1, s2⟩, ⟨s3, s4, s5, s6⟩, ⟨s7, s8⟩, ⟨s9, s10, s11, s12⟩, s13⟩ := hS; have hlk := lookupI_no s13 i hin; go_simp) hHeld ?_
                        try simp only [Act.put, List.setIfInBounds_toArray, List.set_cons_zero, List.set_cons_succ]
                        refine held_no 24 (some 260) rfl rfl (by kernel_rfl) (by kernel_rfl) (by kernel_rfl) (fun _ _ _ h => h) rfl hHeld ?_
                        try simp only [Act.put, List.setIfInBounds_toArray, List.set_cons_zero, List.set_cons_succ]
                        refine held_no 25 (some 261) rfl rfl (by kernel_rfl) (by kernel_rfl) (by kernel_rfl) (fun _ _ _ h => h) rfl hHeld ?_
                        try simp only [Act.put, List.setIfInBounds_toArray, List.set_cons_zero, List.set_cons_succ]
                        refine held_no 26 (some 262) rfl rfl (by kernel_rfl) (by kernel_rfl) (by kernel_rfl) (fun _ _ _ h => h) rfl hHeld ?_
                        try simp only [Act.put, List.setIfInBounds_toArray, List.set_cons_zero, List.set_cons_succ]
                        refine held_no 27 (some 263) rfl rfl (by kernel_rfl) (by kernel_rfl) (by kernel_rfl) (fun _ _ _ h => h) rfl hHeld ?_
                        try simp only [Act.put, List.setIfInBounds_toArray, List.set_cons_zero, List.set_cons_succ]
                        refine held_no 28 (some 264) rfl rfl (by kernel_rfl) (by kernel_rfl) (by kernel_rfl) (fun _ _ _ h => h) rfl hHeld ?_
                        try simp only [Act.put, List.setIfInBounds_toArray, List.set_cons_zero, List.set_cons_succ]
                        refine held_no 29 (some 265) rfl rfl (by kernel_rfl) (by kernel_rfl) (by kernel_rfl) (fun _ _ _ h => h) rfl hHeld ?_
                        try simp only [Act.put, List.setIfInBounds_toArray, List.set_cons_zero, List.set_cons_succ]
                        refine held_no 30 (some 266) rfl rfl (by kernel_rfl) (by kernel_rfl) (by kernel_rfl) (fun _ _ _ h => h) rfl hHeld ?_
                        try simp only [Act.put, List.setIfInBounds_toArray, List.set_cons_zero, List.set_cons_succ]
                        refine held_no 31 (some 267) rfl rfl (by kernel_rfl) (by kernel_rfl) (by kernel_rfl) (fun _ _ _ h => h) rfl hHeld ?_
                        try simp only [Act.put, List.setIfInBounds_toArray, List.set_cons_zero, List.set_cons_succ]
                        refine held_no 32 (some 268) rfl rfl (by kernel_rfl) (by kernel_rfl) (by kernel_rfl) (fun _ _ _ h => h) rfl hHeld ?_
                        try simp only [Act.put, List.setIfInBounds_toArray, List.set_cons_zero, List.set_cons_succ]
                        refine held_yes 33 (some 269) (.bool false) rfl rfl (by kernel_rfl) (by kernel_rfl) (by kernel_rfl) (fun _ _ _ h => h) rfl (fun w' hS => by obtain ⟨⟨s0, s1, s2⟩, ⟨s3, s4, s5, s6⟩, ⟨s7, s8⟩, ⟨s9, s10, s11, s12⟩, s13⟩ := hS; have hlk := lookupI_no s13 i hin; go_simp) hHeld ?_
                        try simp only [Act.put, List.setIfInBounds_toArray, List.set_cons_zero, List.set_cons_succ]
                        refine wpAnyH_done (by kernel_rfl) ?_ _
                        clear hHeld kt
                        obtain ⟨wj1, wj2⟩ := HWJ.out
                        have HXD := Lib.hid hXD
                        have HMD := Lib.hid hMD
                        clear hXD hMD
                        go_wp2_with fail
                        go_roundw
                        case rel => exact ⟨j + 1, HJJ.out, by simp, HMD.out, HXD.out⟩
                        case measure => exact HJM.out
                      | true =>
                      obtain ⟨gb, hgb⟩ : ∃ gb, decide (0 < gr) = gb := ⟨_, rfl⟩
                      cases gb with
                      | false =>
                        as_aux_lemma =>
                        refine wp_region_held_drew (S := fun V => (V.cell? ⟨w.heap.size, 0, none⟩ = some (.string kind) ∧ V.cell? ⟨w.heap.size, 1, none⟩ = some (.int .i64 g0) ∧ V.cell? ⟨w.heap.size, 2, none⟩ = some (.int .i64 day)) ∧ (V.cell? ⟨ga, 0, none⟩ = some (.string nm) ∧ V.cell? ⟨ga, 1, none⟩ = some (.string kd) ∧ V.cell? ⟨ga, 2, none⟩ = some (.int .i64 gr) ∧ V.cell? ⟨ga, 3, none⟩ = some (.int .i64 un)) ∧ (V.cell? ⟨wb.heap.size, 0, none⟩ = some (.int .i64 (ip : Int)) ∧ V.cell? ⟨wb.heap.size, 1, none⟩ = some (.int .i64 yp)) ∧ (V.cell? ⟨b, o + ip * 4, none⟩ = some (.string nmp) ∧ V.cell? ⟨b, o + ip * 4 + 1, none⟩ = some (.string kdp) ∧ V.cell? ⟨b, o + ip * 4 + 2, none⟩ = some (.int .i64 grp) ∧ V.cell? ⟨b, o + ip * 4 + 3, none⟩ = some (.int .i64 unp)) ∧ IMX V mb (TT.map (·.1))) (by kernel_rfl) (kt _ hD) (fun hHeld => ?_)
                        refine held_yes 0 (some 236) (.map (some mb)) rfl rfl (by kernel_rfl) (by kernel_rfl) (by kernel_rfl) (fun _ _ _ h => h) rfl (fun w' hS => by obtain ⟨⟨s0, s1, s2⟩, ⟨s3, s4, s5, s6⟩, ⟨s7, s8⟩, ⟨s9, s10, s11, s12⟩, s13⟩ := hS; have hlk := lookupI_no s13 i hin; go_simp) hHeld ?_
                        try simp only [Act.put, List.setIfInBounds_toArray, List.set_cons_zero, List.set_cons_succ]
                        refine held_yes 1 (some 237) (.int .i64 i) rfl rfl (by kernel_rfl) (by kernel_rfl) (by kernel_rfl) (fun _ _ _ h => h) rfl (fun w' hS => by obtain ⟨⟨s0, s1, s2⟩, ⟨s3, s4, s5, s6⟩, ⟨s7, s8⟩, ⟨s9, s10, s11, s12⟩, s13⟩ := hS; have hlk := lookupI_no s13 i hin; go_simp) hHeld ?_
                        try simp only [Act.put, List.setIfInBounds_toArray, List.set_cons_zero, List.set_cons_succ]
                        refine held_yes 2 (some 238) (.bool false) rfl rfl (by kernel_rfl) (by kernel_rfl) (by kernel_rfl) (fun _ _ _ h => h) rfl (fun w' hS => by obtain ⟨⟨s0, s1, s2⟩, ⟨s3, s4, s5, s6⟩, ⟨s7, s8⟩, ⟨s9, s10, s11, s12⟩, s13⟩ := hS; have hlk := lookupI_no s13 i hin; go_simp) hHeld ?_
                        try simp only [Act.put, List.setIfInBounds_toArray, List.set_cons_zero, List.set_cons_succ]
                        refine held_yes 3 (some 239) (.bool true) rfl rfl (by kernel_rfl) (by kernel_rfl) (by kernel_rfl) (fun _ _ _ h => h) rfl (fun w' hS => by obtain ⟨⟨s0, s1, s2⟩, ⟨s3, s4, s5, s6⟩, ⟨s7, s8⟩, ⟨s9, s10, s11, s12⟩, s13⟩ := hS; have hlk := lookupI_no s13 i hin; go_simp) hHeld ?_
                        try simp only [Act.put, List.setIfInBounds_toArray, List.set_cons_zero, List.set_cons_succ]
                        refine held_yes 4 (some 240) (.bool true) rfl rfl (by kernel_rfl) (by kernel_rfl) (by kernel_rfl) (fun _ _ _ h => h) rfl (fun w' hS => by obtain ⟨⟨s0, s1, s2⟩, ⟨s3, s4, s5, s6⟩, ⟨s7, s8⟩, ⟨s9, s10, s11, s12⟩, s13⟩ := hS; have hlk := lookupI_no s13 i hin; go_simp) hHeld ?_
                        try simp only [Act.put, List.setIfInBounds_toArray, List.set_cons_zero, List.set_cons_succ]
                        refine held_yes 5 (some 241) (.pointer (some ⟨ga, 1, none⟩)) rfl rfl (by kernel_rfl) (by kernel_rfl) (by kernel_rfl) (fun _ _ _ h => h) rfl (fun w' hS => by obtain ⟨⟨s0, s1, s2⟩, ⟨s3, s4, s5, s6⟩, ⟨s7, s8⟩, ⟨s9, s10, s11, s12⟩, s13⟩ := hS; have hlk := lookupI_no s13 i hin; go_simp) hHeld ?_
                        try simp only [Act.put, List.setIfInBounds_toArray, List.set_cons_zero, List.set_cons_succ]
                        refine held_yes 6 (some 242) (.string kd) rfl rfl (by kernel_rfl) (by kernel_rfl) (by kernel_rfl) (fun _ _ _ h => h) rfl (fun w' hS => by obtain ⟨⟨s0, s1, s2⟩, ⟨s3, s4, s5, s6⟩, ⟨s7, s8⟩, ⟨s9, s10, s11, s12⟩, s13⟩ := hS; have hlk := lookupI_no s13 i hin; go_simp) hHeld ?_
                        try simp only [Act.put, List.setIfInBounds_toArray, List.set_cons_zero, List.set_cons_succ]
                        refine held_yes 7 (some 243) (.pointer (some ⟨w.heap.size, 0, none⟩)) rfl rfl (by kernel_rfl) (by kernel_rfl) (by kernel_rfl) (fun _ _ _ h => h) rfl (fun w' hS => by obtain ⟨⟨s0, s1, s2⟩, ⟨s3, s4, s5, s6⟩, ⟨s7, s8⟩, ⟨s9, s10, s11, s12⟩, s13⟩ := hS; have hlk := lookupI_no s13 i hin; go_simp) hHeld ?_
                        try simp only [Act.put, List.setIfInBounds_toArray, List.set_cons_zero, List.set_cons_succ]
                        refine held_yes 8 (some 244) (.string kind) rfl rfl (by kernel_rfl) (by kernel_rfl) (by kernel_rfl) (fun _ _ _ h => h) rfl (fun w' hS => by obtain ⟨⟨s0, s1, s2⟩, ⟨s3, s4, s5, s6⟩, ⟨s7, s8⟩, ⟨s9, s10, s11, s12⟩, s13⟩ := hS; have hlk := lookupI_no s13 i hin; go_simp) hHeld ?_
                        try simp only [Act.put, List.setIfInBounds_toArray, List.set_cons_zero, List.set_cons_succ]
                        refine held_yes 9 (some 245) (.bool true) rfl rfl (by kernel_rfl) (by kernel_rfl) (by kernel_rfl) (fun _ _ _ h => h) rfl (fun w' hS => by obtain ⟨⟨s0, s1, s2⟩, ⟨s3, s4, s5, s6⟩, ⟨s7, s8⟩, ⟨s9, s10, s11, s12⟩, s13⟩ := hS; have hlk := lookupI_no s13 i hin; go_simp) hHeld ?_
                        try simp only [Act.put, List.setIfInBounds_toArray, List.set_cons_zero, List.set_cons_succ]
                        refine held_yes 10 (some 246) (.bool true) rfl rfl (by kernel_rfl) (by kernel_rfl) (by kernel_rfl) (fun _ _ _ h => h) rfl (fun w' hS => by obtain ⟨⟨s0, s1, s2⟩, ⟨s3, s4, s5, s6⟩, ⟨s7, s8⟩, ⟨s9, s10, s11, s12⟩, s13⟩ := hS; have hlk := lookupI_no s13 i hin; go_simp) hHeld ?_
                        try simp only [Act.put, List.setIfInBounds_toArray, List.set_cons_zero, List.set_cons_succ]
                        refine held_yes 11 (some 247) (.bool true) rfl rfl (by kernel_rfl) (by kernel_rfl) (by kernel_rfl) (fun _ _ _ h => h) rfl (fun w' hS => by obtain ⟨⟨s0, s1, s2⟩, ⟨s3, s4, s5, s6⟩, ⟨s7, s8⟩, ⟨s9, s10, s11, s12⟩, s13⟩ := hS; have hlk := lookupI_no s13 i hin; go_simp) hHeld ?_
                        try simp only [Act.put, List.setIfInBounds_toArray, List.set_cons_zero, List.set_cons_succ]
                        refine held_yes 12 (some 248) (.pointer (some ⟨ga, 3, none⟩)) rfl rfl (by kernel_rfl) (by kernel_rfl) (by kernel_rfl) (fun _ _ _ h => h) rfl (fun w' hS => by obtain ⟨⟨s0, s1, s2⟩, ⟨s3, s4, s5, s6⟩, ⟨s7, s8⟩, ⟨s9, s10, s11, s12⟩, s13⟩ := hS; have hlk := lookupI_no s13 i hin; go_simp) hHeld ?_
                        try simp only [Act.put, List.setIfInBounds_toArray, List.set_cons_zero, List.set_cons_succ]
                        refine held_yes 13 (some 249) (.int .i64 un) rfl rfl (by kernel_rfl) (by kernel_rfl) (by kernel_rfl) (fun _ _ _ h => h) rfl (fun w' hS => by obtain ⟨⟨s0, s1, s2⟩, ⟨s3, s4, s5, s6⟩, ⟨s7, s8⟩, ⟨s9, s10, s11, s12⟩, s13⟩ := hS; have hlk := lookupI_no s13 i hin; go_simp) hHeld ?_
                        try simp only [Act.put, List.setIfInBounds_toArray, List.set_cons_zero, List.set_cons_succ]
                        refine held_yes 14 (some 250) (.pointer (some ⟨w.heap.size, 2, none⟩)) rfl rfl (by kernel_rfl) (by kernel_rfl) (by kernel_rfl) (fun _ _ _ h => h) rfl (fun w' hS => by obtain ⟨⟨s0, s1, s2⟩, ⟨s3, s4, s5, s6⟩, ⟨s7, s8⟩, ⟨s9, s10, s11, s12⟩, s13⟩ := hS; have hlk := lookupI_no s13 i hin; go_simp) hHeld ?_
                        try simp only [Act.put, List.setIfInBounds_toArray, List.set_cons_zero, List.set_cons_succ]
                        refine held_yes 15 (some 251) (.int .i64 day) rfl rfl (by kernel_rfl) (by kernel_rfl) (by kernel_rfl) (fun _ _ _ h => h) rfl (fun w' hS => by obtain ⟨⟨s0, s1, s2⟩, ⟨s3, s4, s5, s6⟩, ⟨s7, s8⟩, ⟨s9, s10, s11, s12⟩, s13⟩ := hS; have hlk := lookupI_no s13 i hin; go_simp) hHeld ?_
                        try simp only [Act.put, List.setIfInBounds_toArray, List.set_cons_zero, List.set_cons_succ]
                        refine held_yes 16 (some 252) (.bool true) rfl rfl (by kernel_rfl) (by kernel_rfl) (by kernel_rfl) (fun _ _ _ h => h) rfl (fun w' hS => by obtain ⟨⟨s0, s1, s2⟩, ⟨s3, s4, s5, s6⟩, ⟨s7, s8⟩, ⟨s9, s10, s11, s12⟩, s13⟩ := hS; have hlk := lookupI_no s13 i hin; go_simp) hHeld ?_
                        try simp only [Act.put, List.setIfInBounds_toArray, List.set_cons_zero, List.set_cons_succ]
                        refine held_yes 17 (some 253) (.bool true) rfl rfl (by kernel_rfl) (by kernel_rfl) (by kernel_rfl) (fun _ _ _ h => h) rfl (fun w' hS => by obtain ⟨⟨s0, s1, s2⟩, ⟨s3, s4, s5, s6⟩, ⟨s7, s8⟩, ⟨s9, s10, s11, s12⟩, s13⟩ := hS; have hlk := lookupI_no s13 i hin; go_simp) hHeld ?_
                        try simp only [Act.put, List.setIfInBounds_toArray, List.set_cons_zero, List.set_cons_succ]
                        refine held_yes 18 (some 254) (.bool true) rfl rfl (by kernel_rfl) (by kernel_rfl) (by kernel_rfl) (fun _ _ _ h => h) rfl (fun w' hS => by obtain ⟨⟨s0, s1, s2⟩, ⟨s3, s4, s5, s6⟩, ⟨s7, s8⟩, ⟨s9, s10, s11, s12⟩, s13⟩ := hS; have hlk := lookupI_no s13 i hin; go_simp) hHeld ?_
                        try simp only [Act.put, List.setIfInBounds_toArray, List.set_cons_zero, List.set_cons_succ]
                        refine held_yes 19 (some 255) (.pointer (some ⟨ga, 2, none⟩)) rfl rfl (by kernel_rfl) (by kernel_rfl) (by kernel_rfl) (fun _ _ _ h => h) rfl (fun w' hS => by obtain ⟨⟨s0, s1, s2⟩, ⟨s3, s4, s5, s6⟩, ⟨s7, s8⟩, ⟨s9, s10, s11, s12⟩, s13⟩ := hS; have hlk := lookupI_no s13 i hin; go_simp) hHeld ?_
                        try simp only [Act.put, List.setIfInBounds_toArray, List.set_cons_zero, List.set_cons_succ]
                        refine held_yes 20 (some 256) (.int .i64 gr) rfl rfl (by kernel_rfl) (by kernel_rfl) (by kernel_rfl) (fun _ _ _ h => h) rfl (fun w' hS => by obtain ⟨⟨s0, s1, s2⟩, ⟨s3, s4, s5, s6⟩, ⟨s7, s8⟩, ⟨s9, s10, s11, s12⟩, s13⟩ := hS; have hlk := lookupI_no s13 i hin; go_simp) hHeld ?_
                        try simp only [Act.put, List.setIfInBounds_toArray, List.set_cons_zero, List.set_cons_succ]
                        refine held_yes 21 (some 257) (.bool false) rfl rfl (by kernel_rfl) (by kernel_rfl) (by kernel_rfl) (fun _ _ _ h => h) rfl (fun w' hS => by obtain ⟨⟨s0, s1, s2⟩, ⟨s3, s4, s5, s6⟩, ⟨s7, s8⟩, ⟨s9, s10, s11, s12⟩, s13⟩ := hS; have hlk := lookupI_no s13 i hin; go_simp) hHeld ?_
                        try simp only [Act.put, List.setIfInBounds_toArray, List.set_cons_zero, List.set_cons_succ]
                        refine held_yes 22 (some 258) (.bool false) rfl rfl (by kernel_rfl) (by kernel_rfl) (by kernel_rfl) (fun _ _ _ h => h) rfl (fun w' hS => by obtain ⟨⟨s0, s1, s2⟩, ⟨s3, s4, s5, s6⟩, ⟨s7, s8⟩, ⟨s9, s10, s11, s12⟩, s13⟩ := hS; have hlk := lookupI_no s13 i hin; go_simp) hHeld ?_
                        try simp only [Act.put, List.setIfInBounds_toArray, List.set_cons_zero, List.set_cons_succ]
                        refine held_yes 23 (some 259) (.bool false) rfl rfl (by kernel_rfl) (by kernel_rfl) (by kernel_rfl) (fun _ _ _ h => h) rfl (fun w' hS => by obtain ⟨⟨s0, s1, s2⟩, ⟨s3, s4, s5, s6⟩, ⟨s7, s8⟩, ⟨s9, s10, s11, s12⟩, s13⟩ := hS; have hlk := lookupI_no s13 i hin; go_simp) hHeld ?_
                        try simp only [Act.put, List.setIfInBounds_toArray, List.set_cons_zero, List.set_cons_succ]
                        refine held_no 24 (some 260) rfl rfl (by kernel_rfl) (by kernel_rfl) (by kernel_rfl) (fun _ _ _ h => h) rfl hHeld ?_
                        try simp only [Act.put, List.setIfInBounds_toArray, List.set_cons_zero, List.set_cons_succ]
                        refine held_no 25 (some 261) rfl rfl (by kernel_rfl) (by kernel_rfl) (by kernel_rfl) (fun _ _ _ h => h) rfl hHeld ?_
                        try simp only [Act.put, List.setIfInBounds_toArray, List.set_cons_zero, List.set_cons_succ]
                        refine held_no 26 (some 262) rfl rfl (by kernel_rfl) (by kernel_rfl) (by kernel_rfl) (fun _ _ _ h => h) rfl hHeld ?_
                        try simp only [Act.put, List.setIfInBounds_toArray, List.set_cons_zero, List.set_cons_succ]
                        refine held_no 27 (some 263) rfl rfl (by kernel_rfl) (by kernel_rfl) (by kernel_rfl) (fun _ _ _ h => h) rfl hHeld ?_
                        try simp only [Act.put, List.setIfInBounds_toArray, List.set_cons_zero, List.set_cons_succ]
                        refine held_no 28 (some 264) rfl rfl (by kernel_rfl) (by kernel_rfl) (by kernel_rfl) (fun _ _ _ h => h) rfl hHeld ?_
                        try simp only [Act.put, List.setIfInBounds_toArray, List.set_cons_zero, List.set_cons_succ]
                        refine held_no 29 (some 265) rfl rfl (by kernel_rfl) (by kernel_rfl) (by kernel_rfl) (fun _ _ _ h => h) rfl hHeld ?_
                        try simp only [Act.put, List.setIfInBounds_toArray, List.set_cons_zero, List.set_cons_succ]
                        refine held_no 30 (some 266) rfl rfl (by kernel_rfl) (by kernel_rfl) (by kernel_rfl) (fun _ _ _ h => h) rfl hHeld ?_
                        try simp only [Act.put, List.setIfInBounds_toArray, List.set_cons_zero, List.set_cons_succ]
                        refine held_no 31 (some 267) rfl rfl (by kernel_rfl) (by kernel_rfl) (by kernel_rfl) (fun _ _ _ h => h) rfl hHeld ?_
                        try simp only [Act.put, List.setIfInBounds_toArray, List.set_cons_zero, List.set_cons_succ]
                        refine held_no 32 (some 268) rfl rfl (by kernel_rfl) (by kernel_rfl) (by kernel_rfl) (fun _ _ _ h => h) rfl hHeld ?_
                        try simp only [Act.put, List.setIfInBounds_toArray, List.set_cons_zero, List.set_cons_succ]
                        refine held_yes 33 (some 269) (.bool false) rfl rfl (by kernel_rfl) (by kernel_rfl) (by kernel_rfl) (fun _ _ _ h => h) rfl (fun w' hS => by obtain ⟨⟨s0, s1, s2⟩, ⟨s3, s4, s5, s6⟩, ⟨s7, s8⟩, ⟨s9, s10, s11, s12⟩, s13⟩ := hS; have hlk := lookupI_no s13 i hin; go_simp) hHeld ?_
                        try simp only [Act.put, List.setIfInBounds_toArray, List.set_cons_zero, List.set_cons_succ]
                        refine wpAnyH_done (by kernel_rfl) ?_ _
                        clear hHeld kt
                        obtain ⟨wj1, wj2⟩ := HWJ.out
                        have HXD := Lib.hid hXD
                        have HMD := Lib.hid hMD
                        clear hXD hMD
                        go_wp2_with fail
                        go_roundw
                        case rel => exact ⟨j + 1, HJJ.out, by simp, HMD.out, HXD.out⟩
                        case measure => exact HJM.out
                      | true =>
                        have hlf := hleft hin hkb hdb hgb
                        as_aux_lemma =>
                        refine wp_region_held_drew (S := fun V => (V.cell? ⟨w.heap.size, 0, none⟩ = some (.string kind) ∧ V.cell? ⟨w.heap.size, 1, none⟩ = some (.int .i64 g0) ∧ V.cell? ⟨w.heap.size, 2, none⟩ = some (.int .i64 day)) ∧ (V.cell? ⟨ga, 0, none⟩ = some (.string nm) ∧ V.cell? ⟨ga, 1, none⟩ = some (.string kd) ∧ V.cell? ⟨ga, 2, none⟩ = some (.int .i64 gr) ∧ V.cell? ⟨ga, 3, none⟩ = some (.int .i64 un)) ∧ (V.cell? ⟨wb.heap.size, 0, none⟩ = some (.int .i64 (ip : Int)) ∧ V.cell? ⟨wb.heap.size, 1, none⟩ = some (.int .i64 yp)) ∧ (V.cell? ⟨b, o + ip * 4, none⟩ = some (.string nmp) ∧ V.cell? ⟨b, o + ip * 4 + 1, none⟩ = some (.string kdp) ∧ V.cell? ⟨b, o + ip * 4 + 2, none⟩ = some (.int .i64 grp) ∧ V.cell? ⟨b, o + ip * 4 + 3, none⟩ = some (.int .i64 unp)) ∧ IMX V mb (TT.map (·.1))) (by kernel_rfl) (kt _ hD) (fun hHeld => ?_)
                        refine held_yes 0 (some 236) (.map (some mb)) rfl rfl (by kernel_rfl) (by kernel_rfl) (by kernel_rfl) (fun _ _ _ h => h) rfl (fun w' hS => by obtain ⟨⟨s0, s1, s2⟩, ⟨s3, s4, s5, s6⟩, ⟨s7, s8⟩, ⟨s9, s10, s11, s12⟩, s13⟩ := hS; have hlk := lookupI_no s13 i hin; go_simp) hHeld ?_
                        try simp only [Act.put, List.setIfInBounds_toArray, List.set_cons_zero, List.set_cons_succ]
                        refine held_yes 1 (some 237) (.int .i64 i) rfl rfl (by kernel_rfl) (by kernel_rfl) (by kernel_rfl) (fun _ _ _ h => h) rfl (fun w' hS => by obtain ⟨⟨s0, s1, s2⟩, ⟨s3, s4, s5, s6⟩, ⟨s7, s8⟩, ⟨s9, s10, s11, s12⟩, s13⟩ := hS; have hlk := lookupI_no s13 i hin; go_simp) hHeld ?_
                        try simp only [Act.put, List.setIfInBounds_toArray, List.set_cons_zero, List.set_cons_succ]
                        refine held_yes 2 (some 238) (.bool false) rfl rfl (by kernel_rfl) (by kernel_rfl) (by kernel_rfl) (fun _ _ _ h => h) rfl (fun w' hS => by obtain ⟨⟨s0, s1, s2⟩, ⟨s3, s4, s5, s6⟩, ⟨s7, s8⟩, ⟨s9, s10, s11, s12⟩, s13⟩ := hS; have hlk := lookupI_no s13 i hin; go_simp) hHeld ?_
                        try simp only [Act.put, List.setIfInBounds_toArray, List.set_cons_zero, List.set_cons_succ]
                        refine held_yes 3 (some 239) (.bool true) rfl rfl (by kernel_rfl) (by kernel_rfl) (by kernel_rfl) (fun _ _ _ h => h) rfl (fun w' hS => by obtain ⟨⟨s0, s1, s2⟩, ⟨s3, s4, s5, s6⟩, ⟨s7, s8⟩, ⟨s9, s10, s11, s12⟩, s13⟩ := hS; have hlk := lookupI_no s13 i hin; go_simp) hHeld ?_
                        try simp only [Act.put, List.setIfInBounds_toArray, List.set_cons_zero, List.set_cons_succ]
                        refine held_yes 4 (some 240) (.bool true) rfl rfl (by kernel_rfl) (by kernel_rfl) (by kernel_rfl) (fun _ _ _ h => h) rfl (fun w' hS => by obtain ⟨⟨s0, s1, s2⟩, ⟨s3, s4, s5, s6⟩, ⟨s7, s8⟩, ⟨s9, s10, s11, s12⟩, s13⟩ := hS; have hlk := lookupI_no s13 i hin; go_simp) hHeld ?_
                        try simp only [Act.put, List.setIfInBounds_toArray, List.set_cons_zero, List.set_cons_succ]
                        refine held_yes 5 (some 241) (.pointer (some ⟨ga, 1, none⟩)) rfl rfl (by kernel_rfl) (by kernel_rfl) (by kernel_rfl) (fun _ _ _ h => h) rfl (fun w' hS => by obtain ⟨⟨s0, s1, s2⟩, ⟨s3, s4, s5, s6⟩, ⟨s7, s8⟩, ⟨s9, s10, s11, s12⟩, s13⟩ := hS; have hlk := lookupI_no s13 i hin; go_simp) hHeld ?_
                        try simp only [Act.put, List.setIfInBounds_toArray, List.set_cons_zero, List.set_cons_succ]
                        refine held_yes 6 (some 242) (.string kd) rfl rfl (by kernel_rfl) (by kernel_rfl) (by kernel_rfl) (fun _ _ _ h => h) rfl (fun w' hS => by obtain ⟨⟨s0, s1, s2⟩, ⟨s3, s4, s5, s6⟩, ⟨s7, s8⟩, ⟨s9, s10, s11, s12⟩, s13⟩ := hS; have hlk := lookupI_no s13 i hin; go_simp) hHeld ?_
                        try simp only [Act.put, List.setIfInBounds_toArray, List.set_cons_zero, List.set_cons_succ]
                        refine held_yes 7 (some 243) (.pointer (some ⟨w.heap.size, 0, none⟩)) rfl rfl (by kernel_rfl) (by kernel_rfl) (by kernel_rfl) (fun _ _ _ h => h) rfl (fun w' hS => by obtain ⟨⟨s0, s1, s2⟩, ⟨s3, s4, s5, s6⟩, ⟨s7, s8⟩, ⟨s9, s10, s11, s12⟩, s13⟩ := hS; have hlk := lookupI_no s13 i hin; go_simp) hHeld ?_
                        try simp only [Act.put, List.setIfInBounds_toArray, List.set_cons_zero, List.set_cons_succ]
                        refine held_yes 8 (some 244) (.string kind) rfl rfl (by kernel_rfl) (by kernel_rfl) (by kernel_rfl) (fun _ _ _ h => h) rfl (fun w' hS => by obtain ⟨⟨s0, s1, s2⟩, ⟨s3, s4, s5, s6⟩, ⟨s7, s8⟩, ⟨s9, s10, s11, s12⟩, s13⟩ := hS; have hlk := lookupI_no s13 i hin; go_simp) hHeld ?_
                        try simp only [Act.put, List.setIfInBounds_toArray, List.set_cons_zero, List.set_cons_succ]
                        refine held_yes 9 (some 245) (.bool true) rfl rfl (by kernel_rfl) (by kernel_rfl) (by kernel_rfl) (fun _ _ _ h => h) rfl (fun w' hS => by obtain ⟨⟨s0, s1, s2⟩, ⟨s3, s4, s5, s6⟩, ⟨s7, s8⟩, ⟨s9, s10, s11, s12⟩, s13⟩ := hS; have hlk := lookupI_no s13 i hin; go_simp) hHeld ?_
                        try simp only [Act.put, List.setIfInBounds_toArray, List.set_cons_zero, List.set_cons_succ]
                        refine held_yes 10 (some 246) (.bool true) rfl rfl (by kernel_rfl) (by kernel_rfl) (by kernel_rfl) (fun _ _ _ h => h) rfl (fun w' hS => by obtain ⟨⟨s0, s1, s2⟩, ⟨s3, s4, s5, s6⟩, ⟨s7, s8⟩, ⟨s9, s10, s11, s12⟩, s13⟩ := hS; have hlk := lookupI_no s13 i hin; go_simp) hHeld ?_
                        try simp only [Act.put, List.setIfInBounds_toArray, List.set_cons_zero, List.set_cons_succ]
                        refine held_yes 11 (some 247) (.bool true) rfl rfl (by kernel_rfl) (by kernel_rfl) (by kernel_rfl) (fun _ _ _ h => h) rfl (fun w' hS => by obtain ⟨⟨s0, s1, s2⟩, ⟨s3, s4, s5, s6⟩, ⟨s7, s8⟩, ⟨s9, s10, s11, s12⟩, s13⟩ := hS; have hlk := lookupI_no s13 i hin; go_simp) hHeld ?_
                        try simp only [Act.put, List.setIfInBounds_toArray, List.set_cons_zero, List.set_cons_succ]
                        refine held_yes 12 (some 248) (.pointer (some ⟨ga, 3, none⟩)) rfl rfl (by kernel_rfl) (by kernel_rfl) (by kernel_rfl) (fun _ _ _ h => h) rfl (fun w' hS => by obtain ⟨⟨s0, s1, s2⟩, ⟨s3, s4, s5, s6⟩, ⟨s7, s8⟩, ⟨s9, s10, s11, s12⟩, s13⟩ := hS; have hlk := lookupI_no s13 i hin; go_simp) hHeld ?_
                        try simp only [Act.put, List.setIfInBounds_toArray, List.set_cons_zero, List.set_cons_succ]
                        refine held_yes 13 (some 249) (.int .i64 un) rfl rfl (by kernel_rfl) (by kernel_rfl) (by kernel_rfl) (fun _ _ _ h => h) rfl (fun w' hS => by obtain ⟨⟨s0, s1, s2⟩, ⟨s3, s4, s5, s6⟩, ⟨s7, s8⟩, ⟨s9, s10, s11, s12⟩, s13⟩ := hS; have hlk := lookupI_no s13 i hin; go_simp) hHeld ?_
                        try simp only [Act.put, List.setIfInBounds_toArray, List.set_cons_zero, List.set_cons_succ]
                        refine held_yes 14 (some 250) (.pointer (some ⟨w.heap.size, 2, none⟩)) rfl rfl (by kernel_rfl) (by kernel_rfl) (by kernel_rfl) (fun _ _ _ h => h) rfl (fun w' hS => by obtain ⟨⟨s0, s1, s2⟩, ⟨s3, s4, s5, s6⟩, ⟨s7, s8⟩, ⟨s9, s10, s11, s12⟩, s13⟩ := hS; have hlk := lookupI_no s13 i hin; go_simp) hHeld ?_
                        try simp only [Act.put, List.setIfInBounds_toArray, List.set_cons_zero, List.set_cons_succ]
                        refine held_yes 15 (some 251) (.int .i64 day) rfl rfl (by kernel_rfl) (by kernel_rfl) (by kernel_rfl) (fun _ _ _ h => h) rfl (fun w' hS => by obtain ⟨⟨s0, s1, s2⟩, ⟨s3, s4, s5, s6⟩, ⟨s7, s8⟩, ⟨s9, s10, s11, s12⟩, s13⟩ := hS; have hlk := lookupI_no s13 i hin; go_simp) hHeld ?_
                        try simp only [Act.put, List.setIfInBounds_toArray, List.set_cons_zero, List.set_cons_succ]
                        refine held_yes 16 (some 252) (.bool true) rfl rfl (by kernel_rfl) (by kernel_rfl) (by kernel_rfl) (fun _ _ _ h => h) rfl (fun w' hS => by obtain ⟨⟨s0, s1, s2⟩, ⟨s3, s4, s5, s6⟩, ⟨s7, s8⟩, ⟨s9, s10, s11, s12⟩, s13⟩ := hS; have hlk := lookupI_no s13 i hin; go_simp) hHeld ?_
                        try simp only [Act.put, List.setIfInBounds_toArray, List.set_cons_zero, List.set_cons_succ]
                        refine held_yes 17 (some 253) (.bool true) rfl rfl (by kernel_rfl) (by kernel_rfl) (by kernel_rfl) (fun _ _ _ h => h) rfl (fun w' hS => by obtain ⟨⟨s0, s1, s2⟩, ⟨s3, s4, s5, s6⟩, ⟨s7, s8⟩, ⟨s9, s10, s11, s12⟩, s13⟩ := hS; have hlk := lookupI_no s13 i hin; go_simp) hHeld ?_
                        try simp only [Act.put, List.setIfInBounds_toArray, List.set_cons_zero, List.set_cons_succ]
                        refine held_yes 18 (some 254) (.bool true) rfl rfl (by kernel_rfl) (by kernel_rfl) (by kernel_rfl) (fun _ _ _ h => h) rfl (fun w' hS => by obtain ⟨⟨s0, s1, s2⟩, ⟨s3, s4, s5, s6⟩, ⟨s7, s8⟩, ⟨s9, s10, s11, s12⟩, s13⟩ := hS; have hlk := lookupI_no s13 i hin; go_simp) hHeld ?_
                        try simp only [Act.put, List.setIfInBounds_toArray, List.set_cons_zero, List.set_cons_succ]
                        refine held_yes 19 (some 255) (.pointer (some ⟨ga, 2, none⟩)) rfl rfl (by kernel_rfl) (by kernel_rfl) (by kernel_rfl) (fun _ _ _ h => h) rfl (fun w' hS => by obtain ⟨⟨s0, s1, s2⟩, ⟨s3, s4, s5, s6⟩, ⟨s7, s8⟩, ⟨s9, s10, s11, s12⟩, s13⟩ := hS; have hlk := lookupI_no s13 i hin; go_simp) hHeld ?_
                        try simp only [Act.put, List.setIfInBounds_toArray, List.set_cons_zero, List.set_cons_succ]
                        refine held_yes 20 (some 256) (.int .i64 gr) rfl rfl (by kernel_rfl) (by kernel_rfl) (by kernel_rfl) (fun _ _ _ h => h) rfl (fun w' hS => by obtain ⟨⟨s0, s1, s2⟩, ⟨s3, s4, s5, s6⟩, ⟨s7, s8⟩, ⟨s9, s10, s11, s12⟩, s13⟩ := hS; have hlk := lookupI_no s13 i hin; go_simp) hHeld ?_
                        try simp only [Act.put, List.setIfInBounds_toArray, List.set_cons_zero, List.set_cons_succ]
                        refine held_yes 21 (some 257) (.bool true) rfl rfl (by kernel_rfl) (by kernel_rfl) (by kernel_rfl) (fun _ _ _ h => h) rfl (fun w' hS => by obtain ⟨⟨s0, s1, s2⟩, ⟨s3, s4, s5, s6⟩, ⟨s7, s8⟩, ⟨s9, s10, s11, s12⟩, s13⟩ := hS; have hlk := lookupI_no s13 i hin; go_simp) hHeld ?_
                        try simp only [Act.put, List.setIfInBounds_toArray, List.set_cons_zero, List.set_cons_succ]
                        refine held_yes 22 (some 258) (.bool true) rfl rfl (by kernel_rfl) (by kernel_rfl) (by kernel_rfl) (fun _ _ _ h => h) rfl (fun w' hS => by obtain ⟨⟨s0, s1, s2⟩, ⟨s3, s4, s5, s6⟩, ⟨s7, s8⟩, ⟨s9, s10, s11, s12⟩, s13⟩ := hS; have hlk := lookupI_no s13 i hin; go_simp) hHeld ?_
                        try simp only [Act.put, List.setIfInBounds_toArray, List.set_cons_zero, List.set_cons_succ]
                        refine held_yes 23 (some 259) (.bool true) rfl rfl (by kernel_rfl) (by kernel_rfl) (by kernel_rfl) (fun _ _ _ h => h) rfl (fun w' hS => by obtain ⟨⟨s0, s1, s2⟩, ⟨s3, s4, s5, s6⟩, ⟨s7, s8⟩, ⟨s9, s10, s11, s12⟩, s13⟩ := hS; have hlk := lookupI_no s13 i hin; go_simp) hHeld ?_
                        try simp only [Act.put, List.setIfInBounds_toArray, List.set_cons_zero, List.set_cons_succ]
                        refine held_yes 24 (some 260) (.pointer (some ⟨ga, 3, none⟩)) rfl rfl (by kernel_rfl) (by kernel_rfl) (by kernel_rfl) (fun _ _ _ h => h) rfl (fun w' hS => by obtain ⟨⟨s0, s1, s2⟩, ⟨s3, s4, s5, s6⟩, ⟨s7, s8⟩, ⟨s9, s10, s11, s12⟩, s13⟩ := hS; have hlk := lookupI_no s13 i hin; go_simp) hHeld ?_
                        try simp only [Act.put, List.setIfInBounds_toArray, List.set_cons_zero, List.set_cons_succ]
                        refine held_yes 25 (some 261) (.int .i64 un) rfl rfl (by kernel_rfl) (by kernel_rfl) (by kernel_rfl) (fun _ _ _ h => h) rfl (fun w' hS => by obtain ⟨⟨s0, s1, s2⟩, ⟨s3, s4, s5, s6⟩, ⟨s7, s8⟩, ⟨s9, s10, s11, s12⟩, s13⟩ := hS; have hlk := lookupI_no s13 i hin; go_simp) hHeld ?_
                        try simp only [Act.put, List.setIfInBounds_toArray, List.set_cons_zero, List.set_cons_succ]
                        refine held_yes 26 (some 262) (.slice (some ⟨b, o, none⟩) l.length cap) rfl rfl (by kernel_rfl) (by kernel_rfl) (by kernel_rfl) (fun _ _ _ h => h) rfl (fun w' hS => by obtain ⟨⟨s0, s1, s2⟩, ⟨s3, s4, s5, s6⟩, ⟨s7, s8⟩, ⟨s9, s10, s11, s12⟩, s13⟩ := hS; have hlk := lookupI_no s13 i hin; go_simp) hHeld ?_
                        try simp only [Act.put, List.setIfInBounds_toArray, List.set_cons_zero, List.set_cons_succ]
                        refine held_yes 27 (some 263) (.pointer (some ⟨wb.heap.size, 0, none⟩)) rfl rfl (by kernel_rfl) (by kernel_rfl) (by kernel_rfl) (fun _ _ _ h => h) rfl (fun w' hS => by obtain ⟨⟨s0, s1, s2⟩, ⟨s3, s4, s5, s6⟩, ⟨s7, s8⟩, ⟨s9, s10, s11, s12⟩, s13⟩ := hS; have hlk := lookupI_no s13 i hin; go_simp) hHeld ?_
                        try simp only [Act.put, List.setIfInBounds_toArray, List.set_cons_zero, List.set_cons_succ]
                        refine held_yes 28 (some 264) (.int .i64 ip) rfl rfl (by kernel_rfl) (by kernel_rfl) (by kernel_rfl) (fun _ _ _ h => h) rfl (fun w' hS => by obtain ⟨⟨s0, s1, s2⟩, ⟨s3, s4, s5, s6⟩, ⟨s7, s8⟩, ⟨s9, s10, s11, s12⟩, s13⟩ := hS; have hlk := lookupI_no s13 i hin; go_simp) hHeld ?_
                        try simp only [Act.put, List.setIfInBounds_toArray, List.set_cons_zero, List.set_cons_succ]
                        refine held_yes 29 (some 265) (.pointer (some ⟨b, o + ip * 4, none⟩)) rfl rfl (by kernel_rfl) (by kernel_rfl) (by kernel_rfl) (fun _ _ _ h => h) rfl (fun w' hS => by obtain ⟨⟨s0, s1, s2⟩, ⟨s3, s4, s5, s6⟩, ⟨s7, s8⟩, ⟨s9, s10, s11, s12⟩, s13⟩ := hS; have hlk := lookupI_no s13 i hin; go_simp) hHeld ?_
                        try simp only [Act.put, List.setIfInBounds_toArray, List.set_cons_zero, List.set_cons_succ]
                        refine held_yes 30 (some 266) (.pointer (some ⟨b, o + ip * 4 + 3, none⟩)) rfl rfl (by kernel_rfl) (by kernel_rfl) (by kernel_rfl) (fun _ _ _ h => h) rfl (fun w' hS => by obtain ⟨⟨s0, s1, s2⟩, ⟨s3, s4, s5, s6⟩, ⟨s7, s8⟩, ⟨s9, s10, s11, s12⟩, s13⟩ := hS; have hlk := lookupI_no s13 i hin; go_simp) hHeld ?_
                        try simp only [Act.put, List.setIfInBounds_toArray, List.set_cons_zero, List.set_cons_succ]
                        refine held_yes 31 (some 267) (.int .i64 unp) rfl rfl (by kernel_rfl) (by kernel_rfl) (by kernel_rfl) (fun _ _ _ h => h) rfl (fun w' hS => by obtain ⟨⟨s0, s1, s2⟩, ⟨s3, s4, s5, s6⟩, ⟨s7, s8⟩, ⟨s9, s10, s11, s12⟩, s13⟩ := hS; have hlk := lookupI_no s13 i hin; go_simp) hHeld ?_
                        try simp only [Act.put, List.setIfInBounds_toArray, List.set_cons_zero, List.set_cons_succ]
                        refine held_yes 32 (some 268) (.bool false) rfl rfl (by kernel_rfl) (by kernel_rfl) (by kernel_rfl) (fun _ _ _ h => h) rfl (fun w' hS => by obtain ⟨⟨s0, s1, s2⟩, ⟨s3, s4, s5, s6⟩, ⟨s7, s8⟩, ⟨s9, s10, s11, s12⟩, s13⟩ := hS; have hlk := lookupI_no s13 i hin; go_simp) hHeld ?_
                        try simp only [Act.put, List.setIfInBounds_toArray, List.set_cons_zero, List.set_cons_succ]
                        refine held_yes 33 (some 269) (.bool false) rfl rfl (by kernel_rfl) (by kernel_rfl) (by kernel_rfl) (fun _ _ _ h => h) rfl (fun w' hS => by obtain ⟨⟨s0, s1, s2⟩, ⟨s3, s4, s5, s6⟩, ⟨s7, s8⟩, ⟨s9, s10, s11, s12⟩, s13⟩ := hS; have hlk := lookupI_no s13 i hin; go_simp) hHeld ?_
                        try simp only [Act.put, List.setIfInBounds_toArray, List.set_cons_zero, List.set_cons_succ]
                        refine wpAnyH_done (by kernel_rfl) ?_ _
                        clear hHeld kt
                        obtain ⟨wj1, wj2⟩ := HWJ.out
                        have HXD := Lib.hid hXD
                        have HMD := Lib.hid hMD
                        clear hXD hMD
                        go_wp2_with fail
                        go_roundw
                        case rel => exact ⟨j + 1, HJJ.out, by simp, HMD.out, HXD.out⟩
                        case measure => exact HJM.out
                  · have HXB := Lib.hid (And.intro hMb (hXa.trans (hXb.mono hXa.size)))
                    obtain ⟨wi1, wi2⟩ := HWI.out
                    clear hMb hXb
                    go_wp2_with fail
                    go_roundw
                    case rel => exact ⟨i + 1, HIK.out, by simp, HXB.out.1, HXB.out.2⟩
                    case measure => exact HIM.out
              · obtain ⟨s0, s1, s2⟩ := kk3 _ hX
                have hBo := hBw3 _ hX
                have hsum : sum2 TT = g0 := HTOT.out
                rw [hsum]
                clear hsum hX hMap
                go_wp2_with (go_at_call 9; refine (awake9_ok _ (hgk.below hBo)).mono ?_; rintro e w9 ⟨rfl, hQ9⟩)
                go_ret
                exact ⟨rfl, hBo.trans (hQ9.mono hBo.size)⟩
end Go.Proofs
