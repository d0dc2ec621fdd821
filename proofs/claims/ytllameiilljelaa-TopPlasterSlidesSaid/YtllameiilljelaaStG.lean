import Derived.Test.YtllameiilljelaaBlock
import Derived.Test.YtllameiilljelaaInsC
import Derived.Test.YtllameiilljelaaRefE
section
/- The example of TopPlasterSlides holds. -/
namespace Go.Proofs
open Go.RowKit
set_option maxHeartbeats 8000000
set_option maxRecDepth 1000000
theorem plaT_ok (v : Value) (w : World) (hl : Sl w v plaB) : Calls Try.prog 15 #[v, .int .i64 4, .agg #[.int .i64 0, .int .i64 0, .int .i64 0]] w fun e w' => ∃ B, e = .returned (.tuple #[.slice (some ⟨B, 0, none⟩) 2 2, .int .i64 0]) ∧ Sl w' (.slice (some ⟨B, 0, none⟩) 2 2) plaT ∧ Below w.heap.size w w' := by
  refine Calls.mono (turnZ_fit plaB v 4 (by decide) (0, 0, 0) w hl pla_chk.1 (by decide) pla_outT) ?_
  rintro e w' ⟨B, rfl, -, hF, hB⟩
  rw [pla_turnS] at hF
  exact ⟨B, rfl, Sl.row (l := plaT) (cap := 2) hF.row hF.lt, hB⟩
theorem plaM_ok (v : Value) (w : World) (hl : Sl w v plaT) : Calls Try.prog 16 #[v, .int .i64 2, .int .i64 0] w fun e w' => ∃ B, e = .returned (.tuple #[.slice (some ⟨B, 0, none⟩) 2 2, .int .i64 0]) ∧ Sl w' (.slice (some ⟨B, 0, none⟩) 2 2) plaM ∧ Below w.heap.size w w' := by
  refine Calls.mono (mirrorZ_fit2 plaT v 0 w hl pla_chk.2.2.1 (by decide) pla_outM) ?_
  rintro e w' ⟨B, rfl, -, hF, hB⟩
  rw [pla_mirS] at hF
  exact ⟨B, rfl, Sl.row (l := plaM) (cap := 2) hF.row hF.lt, hB⟩
theorem plaU_ok (v : Value) (w : World) (hl : Sl w v plaM) : Calls Try.prog 17 #[v, .agg #[.int .i64 0, .int .i64 0, .int .i64 1]] w fun e w' => ∃ B, e = .returned (.tuple #[.slice (some ⟨B, 0, none⟩) 2 2, .int .i64 0]) ∧ Sl w' (.slice (some ⟨B, 0, none⟩) 2 2) plaU ∧ Below w.heap.size w w' := by
  refine Calls.mono (Undercuts_ok plaM v 0 0 1 plaK 3 w hl pla_chk.2.1 (by decide) (by rw [pla_base]; decide) pla_steps (fun c _ => by unfold plaK; split <;> omega) (by decide)) ?_
  rintro e w' ⟨B, out, rfl, hF, hu, hm, hB⟩
  obtain rfl : out = plaU := up_ext hu pla_up.2.2.2 fun c => (hm c).trans (pla_und c)
  exact ⟨B, rfl, Sl.row (l := plaU) (cap := 2) hF.row hF.lt, hB⟩
theorem plaBd_ok (v : Value) (w : World) (hl : Sl w v plaB) : Calls Try.prog 18 #[v] w fun e w' => e = .returned (.tuple #[.agg #[.int .i64 0, .int .i64 0, .int .i64 0, .int .i64 1, .int .i64 0, .int .i64 2], .int .i64 0]) ∧ Below w.heap.size w w' :=
  Bound_ok plaB (0, 0, 0) v w hl rfl pla_chk.1
theorem plaBl_ok (w : World) : Calls Try.prog 19 #[.agg #[.int .i64 0, .int .i64 0, .int .i64 0, .int .i64 1, .int .i64 0, .int .i64 2]] w fun e w' => ∃ A cap, e = .returned (.tuple #[.slice A 6 cap, .int .i64 0]) ∧ Below w.heap.size w w' := by
  refine Calls.mono (block_ok ((0, 0, 0), (1, 0, 2)) (by unfold Near; decide) (by unfold Near; decide) (by unfold Wide; decide) (by decide) w) ?_
  rintro e w' ⟨v, rfl, hown, hB⟩
  obtain ⟨A, cap, rfl⟩ := hown.sl.form
  exact ⟨A, cap, rfl, hB⟩
theorem sameXP {l : List Cel} {v u : Value} {w : World} (hl : Sl w v l) (hm : Sl w u l) (hn : l.length ≤ 4096) :
    Calls Try.prog 20 #[v, u] w fun e w' => e = .returned (.bool true) ∧ Below w.heap.size w w' := by
  refine (sameSl l l v u w hl hm hn).mono ?_
  rintro e w' ⟨rfl, q, rfl⟩
  exact ⟨by rw [decide_eq_true rfl], ⟨rfl, rfl, rfl, Nat.le_refl _, fun _ _ => rfl⟩⟩
theorem plasterRing_ok (w : World) : RingP w := by
  intro W hW
  clear hW
  have hX := Below.refl W.heap.size W
  go_enter Try.func6, Try.ntmps6
  go_wp2_with (go_at_call 14; refine (plaCell_ok _ _ _ _).mono ?_; rintro e w1 ⟨rfl, h1⟩; have hX := hX.trans (h1.mono hX.size))
  have sB : Sl (w1.alloc (.cells #[.int .i64 0, .int .i64 0, .int .i64 0, .int .i64 1, .int .i64 0, .int .i64 2] 26)) (.slice (some ⟨w1.heap.size, 0, none⟩) 2 2) plaB := sl_two (a := (0, 0, 0)) (b := (1, 0, 2)) (heap_alloc_new _ _)
  have hX := hX.trans ((below_alloc w1 (.cells #[.int .i64 0, .int .i64 0, .int .i64 0, .int .i64 1, .int .i64 0, .int .i64 2] 26)).mono hX.size)
  clear h1
  generalize w1.alloc (.cells #[.int .i64 0, .int .i64 0, .int .i64 0, .int .i64 1, .int .i64 0, .int .i64 2] 26) = wa at sB hX ⊢
  generalize w1.heap.size = B1 at sB ⊢
  refine (plaT_ok _ _ sB).mono ?_
  rintro e w2 ⟨B2, rfl, s2, h2⟩
  have hX := hX.trans (h2.mono hX.size)
  have sB := sB.below h2
  go_wp2_with (go_at_call 16; refine (plaM_ok _ _ s2).mono ?_; rintro e w3 ⟨B3, rfl, s3, h3⟩; have hX := hX.trans (h3.mono hX.size); have sB := sB.below h3)
  refine (plaCell_ok _ _ _ _).mono ?_
  rintro e w4 ⟨rfl, h4⟩
  have hX := hX.trans (h4.mono hX.size)
  have sB := sB.below h4
  have s3 := s3.below h4
  go_wp2_with (go_at_call 17; refine (plaU_ok _ _ s3).mono ?_; rintro e w5 ⟨B5, rfl, s5, h5⟩; have hX := hX.trans (h5.mono hX.size); have sB := sB.below h5; have s3 := s3.below h5)
  refine (plaBd_ok _ _ sB).mono ?_
  rintro e w6 ⟨rfl, h6⟩
  have hX := hX.trans (h6.mono hX.size)
  have s3 := s3.below h6
  have s5 := s5.below h6
  go_wp2_with fail
  have hA := below_alloc w6 (.cells #[.int .i64 0, .int .i64 0, .int .i64 0, .int .i64 1, .int .i64 0, .int .i64 2] 45)
  have hX := hX.trans (hA.mono hX.size)
  have s3 := s3.below hA
  have s5 := s5.below hA
  clear hA
  generalize w6.alloc (.cells #[.int .i64 0, .int .i64 0, .int .i64 0, .int .i64 1, .int .i64 0, .int .i64 2] 45) = wb at hX s3 s5 ⊢
  generalize w6.heap.size = B6
  refine (plaBl_ok _).mono ?_
  rintro e w7 ⟨A7, c7, rfl, h7⟩
  have hX := hX.trans (h7.mono hX.size)
  have s3 := s3.below h7
  have s5 := s5.below h7
  clear sB
  go_wp2_with (go_at_call 14; refine (plaCell_ok _ _ _ _).mono ?_; rintro e w8 ⟨rfl, h8⟩; have hX := hX.trans (h8.mono hX.size); have s3 := s3.below h8; have s5 := s5.below h8)
  have sM : Sl (w8.alloc (.cells #[.int .i64 (-1), .int .i64 0, .int .i64 2, .int .i64 0, .int .i64 0, .int .i64 0] 26)) (.slice (some ⟨w8.heap.size, 0, none⟩) 2 2) plaM := sl_two (a := (-1, 0, 2)) (b := (0, 0, 0)) (heap_alloc_new _ _)
  have hA := below_alloc w8 (.cells #[.int .i64 (-1), .int .i64 0, .int .i64 2, .int .i64 0, .int .i64 0, .int .i64 0] 26)
  have hX := hX.trans (hA.mono hX.size)
  have s3 := s3.below hA
  have s5 := s5.below hA
  clear hA
  generalize w8.alloc (.cells #[.int .i64 (-1), .int .i64 0, .int .i64 2, .int .i64 0, .int .i64 0, .int .i64 0] 26) = wc at hX s3 s5 sM ⊢
  generalize w8.heap.size = B8 at sM ⊢
  refine (sameXP s3 sM (by decide)).mono ?_
  rintro e w9 ⟨rfl, h9⟩
  have hX := hX.trans (h9.mono hX.size)
  have s5 := s5.below h9
  clear s3 sM
  go_wp2_with (go_at_call 14; refine (plaCell_ok _ _ _ _).mono ?_; rintro e w10 ⟨rfl, h10⟩; have hX := hX.trans (h10.mono hX.size); have s5 := s5.below h10)
  have sU : Sl (w10.alloc (.cells #[.int .i64 (-1), .int .i64 0, .int .i64 0, .int .i64 (-1), .int .i64 0, .int .i64 1] 26)) (.slice (some ⟨w10.heap.size, 0, none⟩) 2 2) plaU := sl_two (a := (-1, 0, 0)) (b := (-1, 0, 1)) (heap_alloc_new _ _)
  have hA := below_alloc w10 (.cells #[.int .i64 (-1), .int .i64 0, .int .i64 0, .int .i64 (-1), .int .i64 0, .int .i64 1] 26)
  have hX := hX.trans (hA.mono hX.size)
  have s5 := s5.below hA
  clear hA
  generalize w10.alloc (.cells #[.int .i64 (-1), .int .i64 0, .int .i64 0, .int .i64 (-1), .int .i64 0, .int .i64 1] 26) = wd at hX s5 sU ⊢
  generalize w10.heap.size = B10 at sU ⊢
  refine (sameXP s5 sU (by decide)).mono ?_
  rintro e w11 ⟨rfl, h11⟩
  have hX := hX.trans (h11.mono hX.size)
  go_wp2
  go_ret
  exact ⟨rfl, hX⟩
end Go.Proofs
end

section
/- A set's slice, and calls that give one. -/
namespace Go.Proofs
open Go.RowKit
set_option maxHeartbeats 8000000
set_option maxRecDepth 1000000
/-- A set's slice: what it reads as, and a capacity that Go allows. -/
def St (W : World) (v : Value) (l : List Cel) : Prop := Sl W v l ∧ ∃ (A : Option Addr) (cap : Nat), v = .slice A l.length cap ∧ l.length ≤ cap ∧ cap ≤ 9223372036854775807
theorem St.below {w w' : World} {v : Value} {l : List Cel} (h : St w v l) (hb : Below w.heap.size w w') : St w' v l := ⟨h.1.below hb, h.2⟩
/-- A call gives a set and no error, and keeps what was there. -/
def Gives (W : World) (X : List Cel) (e : Ending) (W' : World) : Prop := ∃ (A : Option Addr) (cap : Nat), e = .returned (.tuple #[.slice A X.length cap, .int .i64 0]) ∧ St W' (.slice A X.length cap) X ∧ Below W.heap.size W W'
theorem St.of_own {w : World} {B : Nat} {v : Value} {l : List Cel} (h : Own w B v l) : St w v l := by
  refine ⟨h.sl, ?_⟩
  rcases h.2 with ⟨rfl, h2⟩ | ⟨g, cap, cur, rfl, _, _, h3, h4, _⟩
  · exact ⟨none, 0, by rw [h2], by omega, by omega⟩
  · unfold maxLen at h4
    exact ⟨_, cap, rfl, h3, by omega⟩
theorem St.of_filled {w : World} {B n : Nat} {l : List Cel} (h : Filled w B n 26 l) (hn : l.length = n) (hl : n ≤ 4096) : St w (.slice (some ⟨B, 0, none⟩) n n) l := by
  subst hn
  exact ⟨Sl.row h.row h.lt, _, _, rfl, Nat.le_refl _, by omega⟩
theorem gives_own {W W' : World} {X : List Cel} {v : Value} (h : Own W' W.heap.size v X) (hB : Below W.heap.size W W') : Gives W X (.returned (.tuple #[v, .int .i64 0])) W' := by
  have hs := St.of_own h
  obtain ⟨A, cap, rfl⟩ := h.sl.form
  exact ⟨A, cap, rfl, hs, hB⟩
end Go.Proofs
end
