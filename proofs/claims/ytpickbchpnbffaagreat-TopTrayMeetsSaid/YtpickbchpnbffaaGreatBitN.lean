/- The reference's low, Short and Few of a bite. -/
import Derived.Test.YtpickbchpnbffaaGreatBitQ
import Derived.Test.YtpickbchpnbffaaGreatHeldF
namespace Go.Proofs
open Go.RowKit
set_option maxHeartbeats 16000000
set_option maxRecDepth 1000000
/-- A call that ends with a bool. -/
def BoolE (w : World) (e : Ending) (w' : World) : Prop := (∃ r : Bool, e = .returned (.bool r)) ∧ Below w.heap.size w w'
theorem boolE_mk {w w' : World} {e : Ending} (r : Bool) (h : e = .returned (.bool r)) (hb : Below w.heap.size w w') : BoolE w e w' := ⟨⟨r, h⟩, hb⟩
theorem low_ok (u l p : List Cel) (vu vl vp : Value) (w : World) (h : BitS w vu vl vp u l p) (ok : BiteOk u l p) :
    Calls Tryz.prog 24 #[.agg #[vu, vl, vp]] w (BoolE w) := by
  obtain ⟨U, uc, rfl⟩ := h.su.form
  obtain ⟨A, ac, rfl⟩ := h.sl.form
  obtain ⟨P, pc, rfl⟩ := h.sp.form
  obtain ⟨W0, hW⟩ : ∃ W0, W0 = w.alloc (.cells #[.slice U u.length uc, .slice A l.length ac, .slice P p.length pc] 24) := ⟨_, rfl⟩
  have hB0 : Below w.heap.size w W0 := by subst hW; exact (Below.refl _ _).alloc (Nat.le_refl _) _
  have hrow : W0.heap[w.heap.size]? = some (.cells #[.slice U u.length uc, .slice A l.length ac, .slice P p.length pc] 24 (0, 0)) := by subst hW; exact heap_alloc_new w _
  have hlt : w.heap.size < W0.heap.size := (Array.getElem?_eq_some_iff.1 hrow).1
  have kS : ∀ V, Below W0.heap.size W0 V → V.cell? ⟨w.heap.size, 0, none⟩ = some (.slice U u.length uc) ∧ V.cell? ⟨w.heap.size, 1, none⟩ = some (.slice A l.length ac) := fun V h => ⟨(three_cellsB ((h.block _ hlt).trans hrow)).1, (three_cellsB ((h.block _ hlt).trans hrow)).2.1⟩
  obtain ⟨c, hc⟩ : ∃ c, u[0]? = some c := ⟨_, List.getElem?_eq_getElem ok.nu⟩
  obtain ⟨d, hd⟩ : ∃ d, l[0]? = some d := ⟨_, List.getElem?_eq_getElem ok.nl⟩
  obtain ⟨lu, nu, -⟩ := chkI_zero.1 ok.cu
  obtain ⟨ll, nl, -⟩ := chkI_zero.1 ok.cl
  obtain ⟨n1, n2, -⟩ := box_in hc nu
  obtain ⟨n3, n4, -⟩ := box_in hd nl
  have qU := fun V (hV : Below W0.heap.size W0 V) => refBound_ok u c _ V (h.below (hB0.trans (hV.mono hB0.size))).su hc (by omega)
  have qL := fun V (hV : Below W0.heap.size W0 V) => refBound_ok l d _ V (h.below (hB0.trans (hV.mono hB0.size))).sl hd (by omega)
  generalize bndK c u u.length = bu at n1 n2 qU
  generalize bndK d l l.length = bl at n3 n4 qL
  obtain ⟨⟨p1, p2, p3⟩, ⟨p4, p5, p6⟩⟩ := bu
  obtain ⟨⟨q1, q2, q3⟩, ⟨q4, q5, q6⟩⟩ := bl
  unfold boxV at qU qL
  unfold Near at n1 n2 n3 n4
  dsimp only at qU qL n1 n2 n3 n4
  have w1 : IntKind.i64.wrap (p6 - p3) = p6 - p3 := wrapS (by omega)
  have w2 : IntKind.i64.wrap (q6 - q3) = q6 - q3 := wrapS (by omega)
  have hX : Below W0.heap.size W0 W0.drew := (Below.refl _ _).drew
  clear h ok hrow hc hd lu nu ll nl n1 n2 n3 n4
  go_enter Tryz.func24, Tryz.ntmps24
  go_wp2_with fail
  rw [← hW]
  clear hW
  refine wp_region_held_drew (S := fun w' => w'.cell? ⟨w.heap.size, 0, none⟩ = some (.slice U u.length uc) ∧ w'.cell? ⟨w.heap.size, 1, none⟩ = some (.slice A l.length ac)) (by kernel_rfl) (kS _ hX) (fun hHeld => ?_)
  refine held_yes 0 (some 3) (.pointer (some ⟨w.heap.size, 0, none⟩)) rfl rfl (by kernel_rfl) (by kernel_rfl) (by kernel_rfl) (fun _ _ _ h => h) rfl (fun w' hS => by obtain ⟨t0, t1⟩ := hS; go_simp) hHeld ?_
  try simp only [Act.put, List.setIfInBounds_toArray, List.set_cons_zero, List.set_cons_succ]
  refine held_yes 1 (some 4) (.slice U u.length uc) rfl rfl (by kernel_rfl) (by kernel_rfl) (by kernel_rfl) (fun _ _ _ h => h) rfl (fun w' hS => by obtain ⟨t0, t1⟩ := hS; go_simp) hHeld ?_
  try simp only [Act.put, List.setIfInBounds_toArray, List.set_cons_zero, List.set_cons_succ]
  refine held_yes 5 (some 8) (.pointer (some ⟨w.heap.size, 0, none⟩)) rfl rfl (by kernel_rfl) (by kernel_rfl) (by kernel_rfl) (fun _ _ _ h => h) rfl (fun w' hS => by obtain ⟨t0, t1⟩ := hS; go_simp) hHeld ?_
  try simp only [Act.put, List.setIfInBounds_toArray, List.set_cons_zero, List.set_cons_succ]
  refine held_yes 6 (some 9) (.slice U u.length uc) rfl rfl (by kernel_rfl) (by kernel_rfl) (by kernel_rfl) (fun _ _ _ h => h) rfl (fun w' hS => by obtain ⟨t0, t1⟩ := hS; go_simp) hHeld ?_
  try simp only [Act.put, List.setIfInBounds_toArray, List.set_cons_zero, List.set_cons_succ]
  refine wpAnyH_ready (rs := [2]) (by kernel_rfl) (by simp) ?_
  refine AllReadyH.cons rfl (fun K hK => ?_) AllReadyH.nil
  go_simp
  refine (qU _ hX).mono ?_
  rintro e w3 ⟨rfl, hB⟩
  replace hX := hX.trans (hB.mono hX.size)
  refine hK.out _ _ (kS _ hX) (fun _ => ?_)
  clear hK K hB
  try simp only [Act.put, List.setIfInBounds_toArray, List.set_cons_zero, List.set_cons_succ]
  have hHeld := kS _ hX
  refine held_yes 3 (some 6) (.agg #[.int .i64 p4, .int .i64 p5, .int .i64 p6]) rfl rfl (by kernel_rfl) (by kernel_rfl) (by kernel_rfl) (fun _ _ _ h => h) rfl (fun w' _ => by rfl) hHeld ?_
  try simp only [Act.put, List.setIfInBounds_toArray, List.set_cons_zero, List.set_cons_succ]
  refine held_yes 4 (some 7) (.int .i64 p6) rfl rfl (by kernel_rfl) (by kernel_rfl) (by kernel_rfl) (fun _ _ _ h => h) rfl (fun w' _ => by rfl) hHeld ?_
  try simp only [Act.put, List.setIfInBounds_toArray, List.set_cons_zero, List.set_cons_succ]
  refine wpAnyH_ready (rs := [7]) (by kernel_rfl) (by simp) ?_
  refine AllReadyH.cons rfl (fun K hK => ?_) AllReadyH.nil
  go_simp
  refine (qU _ hX).mono ?_
  rintro e w3 ⟨rfl, hB⟩
  replace hX := hX.trans (hB.mono hX.size)
  refine hK.out _ _ (kS _ hX) (fun _ => ?_)
  clear hK K hB
  try simp only [Act.put, List.setIfInBounds_toArray, List.set_cons_zero, List.set_cons_succ]
  have hHeld := kS _ hX
  refine held_yes 8 (some 11) (.agg #[.int .i64 p1, .int .i64 p2, .int .i64 p3]) rfl rfl (by kernel_rfl) (by kernel_rfl) (by kernel_rfl) (fun _ _ _ h => h) rfl (fun w' _ => by rfl) hHeld ?_
  try simp only [Act.put, List.setIfInBounds_toArray, List.set_cons_zero, List.set_cons_succ]
  refine held_yes 9 (some 12) (.int .i64 p3) rfl rfl (by kernel_rfl) (by kernel_rfl) (by kernel_rfl) (fun _ _ _ h => h) rfl (fun w' _ => by rfl) hHeld ?_
  try simp only [Act.put, List.setIfInBounds_toArray, List.set_cons_zero, List.set_cons_succ]
  refine held_yes 10 (some 13) (.int .i64 (p6 - p3)) rfl rfl (by kernel_rfl) (by kernel_rfl) (by kernel_rfl) (fun _ _ _ h => h) rfl (fun w' _ => by go_simp) hHeld ?_
  try simp only [Act.put, List.setIfInBounds_toArray, List.set_cons_zero, List.set_cons_succ]
  by_cases g : p6 - p3 ≤ 60
  · have gd : decide (p6 - p3 ≤ 60) = true := decide_eq_true g
    refine held_yes 11 (some 14) (.bool true) rfl rfl (by kernel_rfl) (by kernel_rfl) (by kernel_rfl) (fun _ _ _ h => h) rfl (fun w' _ => by go_simp) hHeld ?_
    try simp only [Act.put, List.setIfInBounds_toArray, List.set_cons_zero, List.set_cons_succ]
    refine held_yes 12 (some 15) (.bool true) rfl rfl (by kernel_rfl) (by kernel_rfl) (by kernel_rfl) (fun _ _ _ h => h) rfl (fun w' _ => by go_simp) hHeld ?_
    try simp only [Act.put, List.setIfInBounds_toArray, List.set_cons_zero, List.set_cons_succ]
    refine held_yes 13 (some 16) (.pointer (some ⟨w.heap.size, 1, none⟩)) rfl rfl (by kernel_rfl) (by kernel_rfl) (by kernel_rfl) (fun _ _ _ h => h) rfl (fun w' hS => by obtain ⟨t0, t1⟩ := hS; go_simp) hHeld ?_
    try simp only [Act.put, List.setIfInBounds_toArray, List.set_cons_zero, List.set_cons_succ]
    refine held_yes 14 (some 17) (.slice A l.length ac) rfl rfl (by kernel_rfl) (by kernel_rfl) (by kernel_rfl) (fun _ _ _ h => h) rfl (fun w' hS => by obtain ⟨t0, t1⟩ := hS; go_simp) hHeld ?_
    try simp only [Act.put, List.setIfInBounds_toArray, List.set_cons_zero, List.set_cons_succ]
    refine held_yes 18 (some 21) (.pointer (some ⟨w.heap.size, 1, none⟩)) rfl rfl (by kernel_rfl) (by kernel_rfl) (by kernel_rfl) (fun _ _ _ h => h) rfl (fun w' hS => by obtain ⟨t0, t1⟩ := hS; go_simp) hHeld ?_
    try simp only [Act.put, List.setIfInBounds_toArray, List.set_cons_zero, List.set_cons_succ]
    refine held_yes 19 (some 22) (.slice A l.length ac) rfl rfl (by kernel_rfl) (by kernel_rfl) (by kernel_rfl) (fun _ _ _ h => h) rfl (fun w' hS => by obtain ⟨t0, t1⟩ := hS; go_simp) hHeld ?_
    try simp only [Act.put, List.setIfInBounds_toArray, List.set_cons_zero, List.set_cons_succ]
    clear g gd
    refine wpAnyH_ready (rs := [15]) (by kernel_rfl) (by simp) ?_
    refine AllReadyH.cons rfl (fun K hK => ?_) AllReadyH.nil
    go_simp
    refine (qL _ hX).mono ?_
    rintro e w3 ⟨rfl, hB⟩
    replace hX := hX.trans (hB.mono hX.size)
    refine hK.out _ _ (kS _ hX) (fun _ => ?_)
    clear hK K hB
    try simp only [Act.put, List.setIfInBounds_toArray, List.set_cons_zero, List.set_cons_succ]
    have hHeld := kS _ hX
    refine held_yes 16 (some 19) (.agg #[.int .i64 q4, .int .i64 q5, .int .i64 q6]) rfl rfl (by kernel_rfl) (by kernel_rfl) (by kernel_rfl) (fun _ _ _ h => h) rfl (fun w' _ => by rfl) hHeld ?_
    try simp only [Act.put, List.setIfInBounds_toArray, List.set_cons_zero, List.set_cons_succ]
    refine held_yes 17 (some 20) (.int .i64 q6) rfl rfl (by kernel_rfl) (by kernel_rfl) (by kernel_rfl) (fun _ _ _ h => h) rfl (fun w' _ => by rfl) hHeld ?_
    try simp only [Act.put, List.setIfInBounds_toArray, List.set_cons_zero, List.set_cons_succ]
    refine wpAnyH_ready (rs := [20]) (by kernel_rfl) (by simp) ?_
    refine AllReadyH.cons rfl (fun K hK => ?_) AllReadyH.nil
    go_simp
    refine (qL _ hX).mono ?_
    rintro e w3 ⟨rfl, hB⟩
    replace hX := hX.trans (hB.mono hX.size)
    refine hK.out _ _ (kS _ hX) (fun _ => ?_)
    clear hK K hB
    try simp only [Act.put, List.setIfInBounds_toArray, List.set_cons_zero, List.set_cons_succ]
    have hHeld := kS _ hX
    refine held_yes 21 (some 24) (.agg #[.int .i64 q1, .int .i64 q2, .int .i64 q3]) rfl rfl (by kernel_rfl) (by kernel_rfl) (by kernel_rfl) (fun _ _ _ h => h) rfl (fun w' _ => by rfl) hHeld ?_
    try simp only [Act.put, List.setIfInBounds_toArray, List.set_cons_zero, List.set_cons_succ]
    refine held_yes 22 (some 25) (.int .i64 q3) rfl rfl (by kernel_rfl) (by kernel_rfl) (by kernel_rfl) (fun _ _ _ h => h) rfl (fun w' _ => by rfl) hHeld ?_
    try simp only [Act.put, List.setIfInBounds_toArray, List.set_cons_zero, List.set_cons_succ]
    refine held_yes 23 (some 26) (.int .i64 (q6 - q3)) rfl rfl (by kernel_rfl) (by kernel_rfl) (by kernel_rfl) (fun _ _ _ h => h) rfl (fun w' _ => by go_simp) hHeld ?_
    try simp only [Act.put, List.setIfInBounds_toArray, List.set_cons_zero, List.set_cons_succ]
    refine held_yes 24 (some 27) (.bool (decide (q6 - q3 ≤ 60))) rfl rfl (by kernel_rfl) (by kernel_rfl) (by kernel_rfl) (fun _ _ _ h => h) rfl (fun w' _ => by go_simp) hHeld ?_
    try simp only [Act.put, List.setIfInBounds_toArray, List.set_cons_zero, List.set_cons_succ]
    refine held_yes 25 (some 28) (.bool (decide (q6 - q3 ≤ 60))) rfl rfl (by kernel_rfl) (by kernel_rfl) (by kernel_rfl) (fun _ _ _ h => h) rfl (fun w' _ => by go_simp) hHeld ?_
    try simp only [Act.put, List.setIfInBounds_toArray, List.set_cons_zero, List.set_cons_succ]
    refine held_yes 26 (some 2) (.bool (decide (q6 - q3 ≤ 60))) rfl rfl (by kernel_rfl) (by kernel_rfl) (by kernel_rfl) (fun _ _ _ h => h) rfl (fun w' _ => by go_simp) hHeld ?_
    try simp only [Act.put, List.setIfInBounds_toArray, List.set_cons_zero, List.set_cons_succ]
    refine wpAnyH_done (by kernel_rfl) ?_ _
    go_wp2
    go_ret
    exact boolE_mk _ rfl (hB0.trans (hX.mono hB0.size))
  · have gd : decide (p6 - p3 ≤ 60) = false := decide_eq_false g
    refine held_yes 11 (some 14) (.bool false) rfl rfl (by kernel_rfl) (by kernel_rfl) (by kernel_rfl) (fun _ _ _ h => h) rfl (fun w' _ => by go_simp) hHeld ?_
    try simp only [Act.put, List.setIfInBounds_toArray, List.set_cons_zero, List.set_cons_succ]
    refine held_yes 12 (some 15) (.bool false) rfl rfl (by kernel_rfl) (by kernel_rfl) (by kernel_rfl) (fun _ _ _ h => h) rfl (fun w' _ => by go_simp) hHeld ?_
    try simp only [Act.put, List.setIfInBounds_toArray, List.set_cons_zero, List.set_cons_succ]
    refine held_no 13 (some 16) rfl rfl (by kernel_rfl) (by kernel_rfl) (by kernel_rfl) (fun _ _ _ h => h) (by kernel_rfl) hHeld ?_
    try simp only [Act.put, List.setIfInBounds_toArray, List.set_cons_zero, List.set_cons_succ]
    refine held_no 14 (some 17) rfl rfl (by kernel_rfl) (by kernel_rfl) (by kernel_rfl) (fun _ _ _ h => h) (by kernel_rfl) hHeld ?_
    try simp only [Act.put, List.setIfInBounds_toArray, List.set_cons_zero, List.set_cons_succ]
    refine held_no 15 (some 18) rfl rfl (by kernel_rfl) (by kernel_rfl) (by kernel_rfl) (fun _ _ _ h => h) (by kernel_rfl) hHeld ?_
    try simp only [Act.put, List.setIfInBounds_toArray, List.set_cons_zero, List.set_cons_succ]
    refine held_no 16 (some 19) rfl rfl (by kernel_rfl) (by kernel_rfl) (by kernel_rfl) (fun _ _ _ h => h) (by kernel_rfl) hHeld ?_
    try simp only [Act.put, List.setIfInBounds_toArray, List.set_cons_zero, List.set_cons_succ]
    refine held_no 17 (some 20) rfl rfl (by kernel_rfl) (by kernel_rfl) (by kernel_rfl) (fun _ _ _ h => h) (by kernel_rfl) hHeld ?_
    try simp only [Act.put, List.setIfInBounds_toArray, List.set_cons_zero, List.set_cons_succ]
    refine held_no 18 (some 21) rfl rfl (by kernel_rfl) (by kernel_rfl) (by kernel_rfl) (fun _ _ _ h => h) (by kernel_rfl) hHeld ?_
    try simp only [Act.put, List.setIfInBounds_toArray, List.set_cons_zero, List.set_cons_succ]
    refine held_no 19 (some 22) rfl rfl (by kernel_rfl) (by kernel_rfl) (by kernel_rfl) (fun _ _ _ h => h) (by kernel_rfl) hHeld ?_
    try simp only [Act.put, List.setIfInBounds_toArray, List.set_cons_zero, List.set_cons_succ]
    refine held_no 20 (some 23) rfl rfl (by kernel_rfl) (by kernel_rfl) (by kernel_rfl) (fun _ _ _ h => h) (by kernel_rfl) hHeld ?_
    try simp only [Act.put, List.setIfInBounds_toArray, List.set_cons_zero, List.set_cons_succ]
    refine held_no 21 (some 24) rfl rfl (by kernel_rfl) (by kernel_rfl) (by kernel_rfl) (fun _ _ _ h => h) (by kernel_rfl) hHeld ?_
    try simp only [Act.put, List.setIfInBounds_toArray, List.set_cons_zero, List.set_cons_succ]
    refine held_no 22 (some 25) rfl rfl (by kernel_rfl) (by kernel_rfl) (by kernel_rfl) (fun _ _ _ h => h) (by kernel_rfl) hHeld ?_
    try simp only [Act.put, List.setIfInBounds_toArray, List.set_cons_zero, List.set_cons_succ]
    refine held_no 23 (some 26) rfl rfl (by kernel_rfl) (by kernel_rfl) (by kernel_rfl) (fun _ _ _ h => h) (by kernel_rfl) hHeld ?_
    try simp only [Act.put, List.setIfInBounds_toArray, List.set_cons_zero, List.set_cons_succ]
    refine held_no 24 (some 27) rfl rfl (by kernel_rfl) (by kernel_rfl) (by kernel_rfl) (fun _ _ _ h => h) (by kernel_rfl) hHeld ?_
    try simp only [Act.put, List.setIfInBounds_toArray, List.set_cons_zero, List.set_cons_succ]
    refine held_yes 25 (some 28) (.bool false) rfl rfl (by kernel_rfl) (by kernel_rfl) (by kernel_rfl) (fun _ _ _ h => h) rfl (fun w' _ => by go_simp) hHeld ?_
    try simp only [Act.put, List.setIfInBounds_toArray, List.set_cons_zero, List.set_cons_succ]
    refine held_yes 26 (some 2) (.bool false) rfl rfl (by kernel_rfl) (by kernel_rfl) (by kernel_rfl) (fun _ _ _ h => h) rfl (fun w' _ => by go_simp) hHeld ?_
    try simp only [Act.put, List.setIfInBounds_toArray, List.set_cons_zero, List.set_cons_succ]
    refine wpAnyH_done (by kernel_rfl) ?_ _
    go_wp2
    go_ret
    exact boolE_mk _ rfl (hB0.trans (hX.mono hB0.size))
theorem shortPath_ok (A : Option Addr) (n cap : Nat) (w : World) :
    Calls Tryz.prog 56 #[.slice A n cap] w (BoolE w) := by
  by_cases h1 : (n : Int) ≤ 12
  · go_enter Tryz.func56, Tryz.ntmps56
    go_wp2
    go_ret
    exact boolE_mk _ rfl (Below.refl _ _)
  · by_cases h2 : (256 : Int) < n
    · go_enter Tryz.func56, Tryz.ntmps56
      go_wp2
      go_ret
      exact boolE_mk _ rfl (Below.refl _ _)
    · go_enter Tryz.func56, Tryz.ntmps56
      go_wp2
      go_ret
      exact boolE_mk _ rfl (Below.refl _ _)
/-- What Short ends with. -/
def ShortE (u l : List Cel) (w : World) (e : Ending) (w' : World) : Prop := ∃ r : Bool, e = .returned (.bool r) ∧ (r = true → shortB u.length 40 = true ∧ shortB l.length 40 = true) ∧ Below w.heap.size w w'
theorem shortE_mk {u l : List Cel} {w w' : World} {e : Ending} (r : Bool) (h : e = .returned (.bool r)) (h2 : r = true → shortB u.length 40 = true ∧ shortB l.length 40 = true) (hb : Below w.heap.size w w') : ShortE u l w e w' := ⟨r, h, h2, hb⟩
theorem shortBite_ok (u l p : List Cel) (U A P : Option Addr) (uc ac pc : Nat) (w : World) :
    Calls Tryz.prog 22 #[.agg #[.slice U u.length uc, .slice A l.length ac, .slice P p.length pc]] w (ShortE u l w) := by
  have hB : Below w.heap.size w (w.alloc (.cells #[.slice U u.length uc, .slice A l.length ac, .slice P p.length pc] 24)) := (Below.refl _ _).alloc (Nat.le_refl _) _
  have s1 := fun W => short_ok U u.length uc 40 W
  have s2 := fun W => short_ok A l.length ac 40 W
  have s3 := fun W => shortPath_ok P p.length pc W
  cases h1 : shortB u.length 40 with
  | false =>
    rw [h1] at s1
    clear h1 s2 s3
    go_enter Tryz.func22, Tryz.ntmps22
    go_wp2_with (go_at_call 55; with_reducible refine (s1 _).mono ?_; rintro e w4 ⟨rfl, rfl⟩)
    go_ret
    exact shortE_mk _ rfl (fun h => by simp at h) hB
  | true =>
    rw [h1] at s1
    cases h2 : shortB l.length 40 with
    | false =>
      rw [h2] at s2
      clear h1 h2 s3
      go_enter Tryz.func22, Tryz.ntmps22
      go_wp2_with (go_at_call 55; (first | with_reducible refine (s1 _).mono ?_ | with_reducible refine (s2 _).mono ?_); rintro e w4 ⟨rfl, rfl⟩)
      go_ret
      exact shortE_mk _ rfl (fun h => by simp at h) hB
    | true =>
      rw [h2] at s2
      have H := Lib.hid (And.intro h1 h2)
      clear h1 h2
      go_enter Tryz.func22, Tryz.ntmps22
      go_wp2_with (first
        | (go_at_call 55; (first | with_reducible refine (s1 _).mono ?_ | with_reducible refine (s2 _).mono ?_); rintro e w4 ⟨rfl, rfl⟩)
        | (go_at_call 56; refine (s3 _).mono ?_; rintro e w5 hE; obtain ⟨⟨r, rfl⟩, hB5⟩ := hE))
      go_ret
      exact shortE_mk _ rfl (fun _ => H.out) (hB.trans (hB5.mono hB.size))
/-- What Few ends with. -/
def FewE (u l p : List Cel) (w : World) (e : Ending) (w' : World) : Prop := ∃ r : Bool, e = .returned (.bool r) ∧ (r = true → BiteOk u l p ∧ u.length ≤ 40 ∧ l.length ≤ 40) ∧ Below w.heap.size w w'
theorem fewE_mk {u l p : List Cel} {w w' : World} {e : Ending} (r : Bool) (h : e = .returned (.bool r)) (h2 : r = true → BiteOk u l p ∧ u.length ≤ 40 ∧ l.length ≤ 40) (hb : Below w.heap.size w w') : FewE u l p w e w' := ⟨r, h, h2, hb⟩
theorem short40 {n : Nat} (h : shortB n 40 = true) (hn : n ≤ 4096) : n ≤ 40 := by
  unfold shortB at h
  simp only [Bool.or_eq_true, Bool.and_eq_true, decide_eq_true_eq] at h
  omega
theorem fewBite_ok (u l p : List Cel) (vu vl vp : Value) (w : World) (h : BitS w vu vl vp u l p) (lu : u.length ≤ maxLen) (ll : l.length ≤ maxLen) (lp : p.length ≤ maxLen) :
    Calls Tryz.prog 5 #[.agg #[vu, vl, vp]] w (FewE u l p w) := by
  obtain ⟨U, uc, rfl⟩ := h.su.form
  obtain ⟨A, ac, rfl⟩ := h.sl.form
  obtain ⟨P, pc, rfl⟩ := h.sp.form
  obtain ⟨W0, hW⟩ : ∃ W0, W0 = w.alloc (.cells #[.slice U u.length uc, .slice A l.length ac, .slice P p.length pc] 24) := ⟨_, rfl⟩
  have hB0 : Below w.heap.size w W0 := by subst hW; exact (Below.refl _ _).alloc (Nat.le_refl _) _
  have hrow : W0.heap[w.heap.size]? = some (.cells #[.slice U u.length uc, .slice A l.length ac, .slice P p.length pc] 24 (0, 0)) := by subst hW; exact heap_alloc_new w _
  have hlt : w.heap.size < W0.heap.size := (Array.getElem?_eq_some_iff.1 hrow).1
  have kk : ∀ V, Below W0.heap.size W0 V → V.cell? ⟨w.heap.size, 0, none⟩ = some (.slice U u.length uc) ∧ V.cell? ⟨w.heap.size, 1, none⟩ = some (.slice A l.length ac) ∧ V.cell? ⟨w.heap.size, 2, none⟩ = some (.slice P p.length pc) := fun V h => three_cellsB ((h.block _ hlt).trans hrow)
  have hV := fun V (hV : Below W0.heap.size W0 V) => h.below (hB0.trans (hV.mono hB0.size))
  have q1 := shortBite_ok u l p U A P uc ac pc W0
  obtain ⟨d0, d1, d2⟩ := kk _ (Below.refl _ _)
  clear h
  go_enter Tryz.func5, Tryz.ntmps5
  go_wp2_with fail
  rw [← hW]
  clear hW
  refine q1.mono ?_
  rintro e w1 hE
  obtain ⟨r, rfl, h1, hX1⟩ := hE
  obtain ⟨d0, d1, d2⟩ := kk _ hX1
  clear q1
  cases r with
  | false =>
    clear h1
    go_wp2
    go_ret
    exact fewE_mk _ rfl (fun h => by simp at h) (hB0.trans (hX1.mono hB0.size))
  | true =>
    have H1 := Lib.hid (h1 rfl)
    clear h1
    have q2 := refBite_ok u l p _ _ _ w1 (hV _ hX1) lu ll lp
    go_wp2_with fail
    refine q2.mono ?_
    rintro e w2 ⟨r2, rfl, h2, hB2⟩
    have hX2 := hX1.trans (hB2.mono hX1.size)
    obtain ⟨d0, d1, d2⟩ := kk _ hX2
    clear q2
    by_cases c2 : r2 = 0
    · have ok := h2 c2
      have H2 := Lib.hid ok
      have q3 := low_ok u l p _ _ _ w2 (hV _ hX2) ok
      clear h2 ok
      subst c2
      go_wp2_with (go_at_call 24; refine q3.mono ?_; rintro e w3 hE; obtain ⟨⟨r3, rfl⟩, hB3⟩ := hE)
      go_ret
      have hX3 := hX2.trans (hB3.mono hX2.size)
      exact fewE_mk _ rfl (fun _ => ⟨H2.out, short40 H1.out.1 (chkI_zero.1 H2.out.cu).1, short40 H1.out.2 (chkI_zero.1 H2.out.cl).1⟩) (hB0.trans (hX3.mono hB0.size))
    · have e1 : (r2 == 0) = false := by rw [beq_eq_false_iff_ne]; exact c2
      clear c2 h2
      go_wp2
      go_ret
      exact fewE_mk _ rfl (fun h => by simp at h) (hB0.trans (hX2.mono hB0.size))
end Go.Proofs
