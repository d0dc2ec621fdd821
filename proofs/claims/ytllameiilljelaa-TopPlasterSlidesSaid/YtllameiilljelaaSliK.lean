import Derived.Test.YtllameiilljelaaSplit
import Derived.Test.YtllameiilljelaaChkZ
import Derived.Test.YtllameiilljelaaInsF
import Derived.Test.YtllameiilljelaaTurnZ
section
/- grid.Cut and grid.Less, for any two lists; the reference's HasCell. -/
namespace Go.Proofs
open Go.RowKit
set_option maxHeartbeats 8000000
set_option maxRecDepth 1000000
theorem cut_ok (a b : List Cel) (va : Value) (A' : Option Addr) (bcap : Nat) (w : World) (ha : Sl w va a) (hb : Sl w (.slice A' b.length bcap) b) (hcap : b.length ≤ bcap) (hcm : bcap ≤ 9223372036854775807) (ca : chkI a = 0) (cb : chkI b = 0) :
    Calls Try.prog 10 #[va, .slice A' b.length bcap] w fun e w' => ∃ v, e = .returned (.tuple #[v, .int .i64 0]) ∧ Own w' w.heap.size v (a.filter fun c => decide (c ∈ b)) ∧ Below w.heap.size w w' := by
  obtain ⟨la, _, hua⟩ := chk_up ca
  obtain ⟨lb, _, hub⟩ := chk_up cb
  have h1 := gridCheckG a va w ha (by unfold maxLen; omega)
  have h2 := fun W (h : Below w.heap.size w W) => gridCheckG b _ W (hb.below h) (by unfold maxLen; omega)
  rw [ca] at h1
  rw [cb] at h2
  have hsp := fun W (h : Below w.heap.size w W) => split_ok a b va A' bcap W (ha.below h) (hb.below h) hcap hcm hua hub (by omega)
  obtain ⟨A, acap, rfl⟩ := ha.form
  generalize b.length = n at h2 hsp hb hcap ⊢
  clear ca cb ha hb hua hub la lb hcap
  have hor : orI 0 0 0 = 0 := by decide
  go_enter Try.func10, Try.ntmps10
  go_wp2_with fail
  refine h1.mono ?_
  rintro e w2 ⟨rfl, hB2⟩
  have h2' := h2 w2 hB2
  clear h1 h2
  go_wp2_with fail
  refine h2'.mono ?_
  rintro e w3 ⟨rfl, hB3⟩
  have hB03 := hB2.trans (hB3.mono hB2.size)
  have hB04 := hB03.alloc hB03.size (.cells #[.int .i64 0, .int .i64 0] 30)
  have hs := hsp _ hB04
  clear h2' hB2 hB3 hsp
  go_wp2_with (first
    | (go_at_call 28; refine (first2_ok 0 0 _ _ _ ?_ ?_).mono ?_; (go_simp); (go_simp); rintro e w5 ⟨rfl, hw5⟩; subst hw5)
    | (go_at_call 32; refine hs.mono ?_; rintro e w6 ⟨v1, v2, rfl, ho1, ho2, hB6⟩))
  go_ret2
  exact ⟨_, rfl, ho1.mono hB04.size, hB04.trans (hB6.mono hB04.size)⟩
theorem cut_bad (a b : List Cel) (va vb : Value) (w : World) (ha : Sl w va a) (hb : Sl w vb b) (la : a.length ≤ maxLen) (lb : b.length ≤ maxLen) (r : Int) (hr : orI (chkI a) (chkI b) 0 = r) (h0 : r ≠ 0) :
    Calls Try.prog 10 #[va, vb] w fun e w' => e = .returned (.tuple #[.slice none 0 0, .int .i64 r]) ∧ Below w.heap.size w w' := by
  have h1 := gridCheckG a va w ha la
  have h2 := fun W (h : Below w.heap.size w W) => gridCheckG b vb W (hb.below h) lb
  generalize chkI a = ra at h1 hr
  generalize chkI b = rb at h2 hr
  have hne : (r == 0) = false := by rw [beq_eq_false_iff_ne]; exact h0
  have hne' : (r != 0) = true := by rw [bne_iff_ne]; exact h0
  have hf2 := fun blk W => first2_ok ra rb blk 2 W
  simp only [hr] at hf2
  clear ha hb la lb hr h0
  go_enter Try.func10, Try.ntmps10
  go_wp2_with fail
  refine h1.mono ?_
  rintro e w2 ⟨rfl, hB2⟩
  have h2' := h2 w2 hB2
  clear h1 h2
  go_wp2_with fail
  refine h2'.mono ?_
  rintro e w3 ⟨rfl, hB3⟩
  have hB03 := hB2.trans (hB3.mono hB2.size)
  clear h2' hB2 hB3
  go_wp2_with (go_at_call 28; refine (hf2 _ _ ?_ ?_).mono ?_; (go_simp); (go_simp); rintro e w5 ⟨rfl, hw5⟩; subst hw5)
  go_ret2
  exact ⟨rfl, hB03.alloc hB03.size _⟩
end Go.Proofs
end

section
/- TopPlasterSlides: what the law's calls give. -/
namespace Go.Proofs
open Go.RowKit
set_option maxHeartbeats 8000000
set_option maxRecDepth 1000000
/-- The example of the law holds, from any later world. -/
def RingP (w : World) : Prop := ∀ W, Below w.heap.size w W → Calls Try.prog 6 #[] W fun e w' => e = .returned (.bool true) ∧ Below W.heap.size W w'
/-- The reference's error of a direction. -/
def refDirI (d : Cel) : Int := if (1 ≤ d.2.2 ∧ d.2.2 ≤ 8) ∧ (-8 ≤ d.1 ∧ d.1 ≤ 8) ∧ (-8 ≤ d.2.1 ∧ d.2.1 ≤ 8) then 0 else 3
theorem refDir_dir {x y z : Int} (h : refDirI (x, y, z) = 0) : dirI (x, y, z) = 0 := by
  unfold refDirI at h
  unfold dirI orI withinI
  dsimp only at h ⊢
  split at h
  · rw [if_neg (by omega), if_neg (by omega), if_neg (by omega)]
  · cases h
theorem outside_ok (n lo hi : Int) (w : World) : Calls Try.prog 13 #[.int .i64 n, .int .i64 lo, .int .i64 hi] w fun e w' => e = .returned (.bool (decide (n < lo ∨ hi < n))) ∧ Below w.heap.size w w' := by
  go_enter Try.func13, Try.ntmps13
  go_wp2
  all_goals go_ret
  all_goals first
    | (rw [decide_eq_true (by omega)]; exact ⟨rfl, Below.refl _ _⟩)
    | (rw [decide_eq_false (by omega)]; exact ⟨rfl, Below.refl _ _⟩)
    | (refine ⟨?_, Below.refl _ _⟩; simp_all)
/-- A set that is shifted is in its order as it was. -/
theorem up_shift {l : List Cel} (s : Cel) (h : Up l) : Up (l.map (shiftC s)) := by
  refine List.Pairwise.map _ (fun a b hab => ?_) h
  unfold ltC shiftC at *
  rw [decide_eq_true_eq] at hab ⊢
  dsimp only
  omega
theorem shift_near {l : List Cel} {s : Cel} {m k : Int} (h : ∀ c ∈ l, Near c m) (hs : Near s k) : ∀ c ∈ l.map (shiftC s), Near c (m + k) := fun c hc => by
  obtain ⟨d, hd, rfl⟩ := List.mem_map.1 hc
  have := h d hd
  unfold Near shiftC at *
  dsimp only
  omega
theorem ascUpS : ∀ {l : List Cel}, Asc l → Up l
  | [], _ => List.Pairwise.nil
  | [_], _ => List.pairwise_singleton _ _
  | x :: y :: l, h => by
    have hu : Up (y :: l) := ascUpS fun i a b ha hb => h (i + 1) a b ha hb
    have hxy : ltC x y = true := (cmp3_lt x y).1 (h 0 x y rfl rfl)
    refine List.pairwise_cons.2 ⟨fun z hz => ?_, hu⟩
    rcases List.mem_cons.1 hz with rfl | hz
    · exact hxy
    · exact ltC_tr hxy ((List.pairwise_cons.1 hu).1 z hz)
theorem sort_up {l : List Cel} (h : Up l) : sortC l = l := up_ext (ascUpS (asc_sortC (up_nodup h))) h fun _ => mem_sortC
theorem vec_near {c : Cel} {s : Int} (h : Near c s) : vecI c s = 0 := by
  unfold Near at h
  unfold vecI orI withinI
  rw [if_neg (by omega), if_neg (by omega), if_neg (by omega)]
theorem out_near {l : List Cel} (h : ∀ c ∈ l, Near c 1000) : outI l = 0 := by
  have : l.any badC = false := by
    rw [List.any_eq_false]
    exact fun c hc => by rw [badC_near.2 (h c hc)]; decide
  unfold outI
  rw [this]
  rfl
theorem shiftP_ok (part : List Cel) (v : Value) (x y z : Int) (w : World) (hl : Sl w v part) (hc : chkI part = 0) (hn : ∀ c ∈ part, Near c 500) (hs : Near (x, y, z) 300) :
    Calls Try.prog 9 #[v, .agg #[.int .i64 x, .int .i64 y, .int .i64 z]] w fun e w' => ∃ (A : Option Addr) (cap : Nat), e = .returned (.tuple #[.slice A (part.map (shiftC (x, y, z))).length cap, .int .i64 0]) ∧ Sl w' (.slice A (part.map (shiftC (x, y, z))).length cap) (part.map (shiftC (x, y, z))) ∧ Below w.heap.size w w' := by
  have hu := up_shift (x, y, z) (chkI_zero.1 hc).2.2
  refine (shiftZ_fit part v (x, y, z) w hl hc (vec_near (hs.mono (by omega))) (out_near fun c h => (shift_near hn hs c h).mono (by omega))).mono ?_
  rintro e w' ⟨B, rfl, hB, hF, hBel⟩
  rw [sort_up hu] at hF
  have hlen : part.length = (part.map (shiftC (x, y, z))).length := by rw [List.length_map]
  refine ⟨some ⟨B, 0, none⟩, part.length, by rw [← hlen], ?_, hBel⟩
  have := Sl.row (cap := part.length) hF.row hF.lt
  exact this
theorem cutP_ok (part base : List Cel) (s : Cel) (va : Value) (B : Option Addr) (bcap : Nat) (w : World) (ha : Sl w va (part.map (shiftC s))) (hb : Sl w (.slice B base.length bcap) base) (hcap : base.length ≤ bcap) (hcm : bcap ≤ 9223372036854775807) (hc : chkI part = 0) (cb : chkI base = 0) (hn : ∀ c ∈ part, Near c 500) (hs : Near s 300) :
    Calls Try.prog 10 #[va, .slice B base.length bcap] w fun e w' => ∃ (A : Option Addr) (cap : Nat), e = .returned (.tuple #[.slice A (hitL part base s).length cap, .int .i64 0]) ∧ Sl w' (.slice A (hitL part base s).length cap) (hitL part base s) ∧ Below w.heap.size w w' := by
  have ca : chkI (part.map (shiftC s)) = 0 := chkI_zero.2 ⟨by rw [List.length_map]; exact (chkI_zero.1 hc).1, fun c h => (shift_near hn hs c h).mono (by omega), up_shift s (chkI_zero.1 hc).2.2⟩
  refine (cut_ok (part.map (shiftC s)) base va B bcap w ha hb hcap hcm ca cb).mono ?_
  rintro e w' ⟨v, rfl, ho, hBel⟩
  have hsl := ho.sl
  obtain ⟨A, cap, rfl⟩ := hsl.form
  exact ⟨A, cap, rfl, hsl, hBel⟩
theorem refDirC_ok (x y z : Int) (w : World) :
    Calls Try.prog 5 #[.agg #[.int .i64 x, .int .i64 y, .int .i64 z]] w fun e w' => e = .returned (.int .i64 (refDirI (x, y, z))) ∧ Below w.heap.size w w' := by
  have q1 := fun W => outside_ok z 1 8 W
  have q2 := fun W => outside_ok x (-8) 8 W
  have q3 := fun W => outside_ok y (-8) 8 W
  obtain ⟨r, hr⟩ : ∃ r, r = refDirI (x, y, z) := ⟨_, rfl⟩
  rw [← hr]
  unfold refDirI at hr
  dsimp only at hr
  obtain ⟨W0, hW⟩ : ∃ W0, W0 = (w.alloc (.cells #[.int .i64 x, .int .i64 y, .int .i64 z] 26)) := ⟨_, rfl⟩
  have hB0 : Below w.heap.size w W0 := by subst hW; exact (Below.refl _ _).alloc (Nat.le_refl _) _
  have hsz : W0.heap.size = w.heap.size + 1 := by subst hW; simp
  have c0 : W0.cell? ⟨w.heap.size, 0, none⟩ = some (.int .i64 x) := by subst hW; go_simp
  have c1 : W0.cell? ⟨w.heap.size, 1, none⟩ = some (.int .i64 y) := by subst hW; go_simp
  have c2 : W0.cell? ⟨w.heap.size, 2, none⟩ = some (.int .i64 z) := by subst hW; go_simp
  have kk : ∀ V, Below W0.heap.size W0 V → V.cell? ⟨w.heap.size, 0, none⟩ = some (.int .i64 x) ∧ V.cell? ⟨w.heap.size, 1, none⟩ = some (.int .i64 y) ∧ V.cell? ⟨w.heap.size, 2, none⟩ = some (.int .i64 z) := fun V h =>
    ⟨(h.cell (p := ⟨w.heap.size, 0, none⟩) (by show w.heap.size < _; omega)).trans c0, (h.cell (p := ⟨w.heap.size, 1, none⟩) (by show w.heap.size < _; omega)).trans c1, (h.cell (p := ⟨w.heap.size, 2, none⟩) (by show w.heap.size < _; omega)).trans c2⟩
  clear c0 c1 c2
  by_cases h1 : z < 1 ∨ 8 < z
  all_goals by_cases h2 : x < -8 ∨ 8 < x
  all_goals by_cases h3 : y < -8 ∨ 8 < y
  all_goals first
    | rw [if_pos (by omega)] at hr
    | rw [if_neg (by omega)] at hr
  all_goals first
    | rw [decide_eq_true h1] at q1
    | rw [decide_eq_false h1] at q1
  all_goals first
    | rw [decide_eq_true h2] at q2
    | rw [decide_eq_false h2] at q2
  all_goals first
    | rw [decide_eq_true h3] at q3
    | rw [decide_eq_false h3] at q3
  all_goals clear h1 h2 h3
  all_goals subst hr
  all_goals go_enter Try.func5, Try.ntmps5
  all_goals go_wp2_with fail
  all_goals rw [← hW]
  all_goals clear hW
  all_goals refine (q1 _).mono ?_
  all_goals rintro e w1 ⟨rfl, hX⟩
  all_goals obtain ⟨e0, e1, e2⟩ := kk _ hX
  all_goals go_wp2_with (first
    | (go_at_call 13; (first
        | with_reducible refine (q2 _).mono ?_
        | with_reducible refine (q3 _).mono ?_); rintro e w2 ⟨rfl, hY⟩; have hX := hX.trans (hY.mono hX.size); obtain ⟨e0, e1, e2⟩ := kk _ hX))
  all_goals go_ret
  all_goals exact ⟨rfl, hB0.trans (hX.mono hB0.size)⟩
end Go.Proofs
end
