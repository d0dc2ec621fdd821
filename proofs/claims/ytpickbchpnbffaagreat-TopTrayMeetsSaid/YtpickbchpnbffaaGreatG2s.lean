import Derived.Test.YtpickbchpnbffaaGreatInsF
import Derived.Test.YtpickbchpnbffaaGreatShiftZ
import Derived.Test.YtpickbchpnbffaaGreatSearch
import Derived.Test.YtpickbchpnbffaaGreatHeldF
import Derived.Test.YtpickbchpnbffaaGreatTrayB
import Derived.Test.YtpickbchpnbffaaGreatApartG
import Derived.Test.YtpickbchpnbffaaGreatGrowG
import Derived.Test.YtpickbchpnbffaaGreatMir1
import Derived.Test.YtpickbchpnbffaaGreatInsB
import Derived.Test.YtpickbchpnbffaaGreatMovedX
section
/- TopPlasterSlides: what the law's calls give. -/
namespace Go.Proofs
open Go.RowKit
set_option maxHeartbeats 8000000
set_option maxRecDepth 1000000
/-- The reference's error of a direction. -/
def refDirI (d : Cel) : Int := if (1 ≤ d.2.2 ∧ d.2.2 ≤ 8) ∧ (-8 ≤ d.1 ∧ d.1 ≤ 8) ∧ (-8 ≤ d.2.1 ∧ d.2.1 ≤ 8) then 0 else 3
theorem refDir_dir {x y z : Int} (h : refDirI (x, y, z) = 0) : dirI (x, y, z) = 0 := by
  unfold refDirI at h
  unfold dirI orI withinI
  dsimp only at h ⊢
  split at h
  · rw [if_neg (by omega), if_neg (by omega), if_neg (by omega)]
  · cases h
/-- A set that is shifted is in its order as it was. -/
theorem up_shift {l : List Cel} (s : Cel) (h : Up l) : Up (l.map (shiftC s)) := by
  refine List.Pairwise.map _ (fun a b hab => ?_) h
  unfold ltC shiftC at *
  rw [decide_eq_true_eq] at hab ⊢
  dsimp only
  omega
theorem shift_near {l : List Cel} {s : Cel} {m k : Int} (h : ∀ c ∈ l, Near c m) (hs : Near s k) : ∀ c ∈ l.map (shiftC s), Near c (m + k) := fun c hc => by
  obtain ⟨d, hd, rfl⟩ := List.mem_map.1 hc
  have := h d hd
  unfold Near shiftC at *
  dsimp only
  omega
theorem ascUpS : ∀ {l : List Cel}, Asc l → Up l
  | [], _ => List.Pairwise.nil
  | [_], _ => List.pairwise_singleton _ _
  | x :: y :: l, h => by
    have hu : Up (y :: l) := ascUpS fun i a b ha hb => h (i + 1) a b ha hb
    have hxy : ltC x y = true := (cmp3_lt x y).1 (h 0 x y rfl rfl)
    refine List.pairwise_cons.2 ⟨fun z hz => ?_, hu⟩
    rcases List.mem_cons.1 hz with rfl | hz
    · exact hxy
    · exact ltC_tr hxy ((List.pairwise_cons.1 hu).1 z hz)
theorem sort_up {l : List Cel} (h : Up l) : sortC l = l := up_ext (ascUpS (asc_sortC (up_nodup h))) h fun _ => mem_sortC
theorem vec_near {c : Cel} {s : Int} (h : Near c s) : vecI c s = 0 := by
  unfold Near at h
  unfold vecI orI withinI
  rw [if_neg (by omega), if_neg (by omega), if_neg (by omega)]
theorem out_near {l : List Cel} (h : ∀ c ∈ l, Near c 1000) : outI l = 0 := by
  have : l.any badC = false := by
    rw [List.any_eq_false]
    exact fun c hc => by rw [badC_near.2 (h c hc)]; decide
  unfold outI
  rw [this]
  rfl
theorem shiftP_ok (part : List Cel) (v : Value) (x y z : Int) (w : World) (hl : Sl w v part) (hc : chkI part = 0) (hn : ∀ c ∈ part, Near c 500) (hs : Near (x, y, z) 300) :
    Calls Tryz.prog 10 #[v, .agg #[.int .i64 x, .int .i64 y, .int .i64 z]] w fun e w' => ∃ (A : Option Addr) (cap : Nat), e = .returned (.tuple #[.slice A (part.map (shiftC (x, y, z))).length cap, .int .i64 0]) ∧ Sl w' (.slice A (part.map (shiftC (x, y, z))).length cap) (part.map (shiftC (x, y, z))) ∧ Below w.heap.size w w' := by
  have hu := up_shift (x, y, z) (chkI_zero.1 hc).2.2
  refine (shiftZ_fit part v (x, y, z) w hl hc (vec_near (hs.mono (by omega))) (out_near fun c h => (shift_near hn hs c h).mono (by omega))).mono ?_
  rintro e w' ⟨B, rfl, hB, hF, hBel⟩
  rw [sort_up hu] at hF
  have hlen : part.length = (part.map (shiftC (x, y, z))).length := by rw [List.length_map]
  refine ⟨some ⟨B, 0, none⟩, part.length, by rw [← hlen], ?_, hBel⟩
  have := Sl.row (cap := part.length) hF.row hF.lt
  exact this
theorem cutP_ok (part base : List Cel) (s : Cel) (va : Value) (B : Option Addr) (bcap : Nat) (w : World) (ha : Sl w va (part.map (shiftC s))) (hb : Sl w (.slice B base.length bcap) base) (hcap : base.length ≤ bcap) (hcm : bcap ≤ 9223372036854775807) (hc : chkI part = 0) (cb : chkI base = 0) (hn : ∀ c ∈ part, Near c 500) (hs : Near s 300) :
    Calls Tryz.prog 12 #[va, .slice B base.length bcap] w fun e w' => ∃ (A : Option Addr) (cap : Nat), e = .returned (.tuple #[.slice A (hitL part base s).length cap, .int .i64 0]) ∧ Sl w' (.slice A (hitL part base s).length cap) (hitL part base s) ∧ Below w.heap.size w w' := by
  have ca : chkI (part.map (shiftC s)) = 0 := chkI_zero.2 ⟨by rw [List.length_map]; exact (chkI_zero.1 hc).1, fun c h => (shift_near hn hs c h).mono (by omega), up_shift s (chkI_zero.1 hc).2.2⟩
  refine (cut_ok (part.map (shiftC s)) base va B bcap w ha hb hcap hcm ca cb).mono ?_
  rintro e w' ⟨v, rfl, ho, hBel⟩
  have hsl := ho.sl
  obtain ⟨A, cap, rfl⟩ := hsl.form
  exact ⟨A, cap, rfl, hsl, hBel⟩
end Go.Proofs
end

section
/- TopTrayMeets: what the law's calls give, in one form. -/
namespace Go.Proofs
open Go.RowKit
set_option maxHeartbeats 16000000
set_option maxRecDepth 1000000
theorem grow_okT {l : List Cel} {v : Value} {w : World} (hl : Sl w v l) (hc : chkI l = 0) (h40 : l.length ≤ 40) :
    Calls Tryz.prog 16 #[v, .int .i64 1] w fun e w' => (∃ r : Int, r ≠ 0 ∧ e = .returned (.tuple #[.slice none 0 0, .int .i64 r]) ∧ Below w.heap.size w w') ∨ ∃ X, chkI X = 0 ∧ (∀ c, c ∈ X ↔ c ∈ growN 1 l) ∧ Gives w X e w' := by
  refine (growG_okS l v 1 w hl hc (by omega) (fun i hi S hnd hS => grow_small h40 (by omega) hnd hS)).mono ?_
  rintro e w' ⟨X, hu, hm, hlX, h, hB⟩
  rcases h with ⟨h, rfl⟩ | ⟨ho, v', rfl, hS, B, rfl⟩
  · exact .inl ⟨_, h, rfl, hB⟩
  · refine .inr ⟨X, chkI_zero.2 ⟨hlX, fun c hc => ?_, hu⟩, hm, _, _, rfl, ⟨hS, _, _, rfl, Nat.le_refl _, by omega⟩, hB⟩
    exact vec_zero (out_zero ho c hc)
theorem gives_row {W W' : World} {B n : Nat} {X : List Cel} (h : Filled W' B n 34 X) (hn : X.length = n) (hl : n ≤ 4096) (hB : Below W.heap.size W W') : Gives W X (.returned (.tuple #[.slice (some ⟨B, 0, none⟩) n n, .int .i64 0])) W' := by
  subst hn
  exact ⟨_, _, rfl, St.of_filled h rfl hl, hB⟩
theorem shiftM {l : List Cel} {v : Value} {x y z : Int} {w : World} (hl : Sl w v l) (hc : chkI l = 0) (hs : Near (x, y, z) 1000) (ht : ∀ c ∈ l, Near (shiftC (x, y, z) c) 1000) :
    Calls Tryz.prog 10 #[v, .agg #[.int .i64 x, .int .i64 y, .int .i64 z]] w (Gives w (l.map (shiftC (x, y, z)))) := by
  have hu := up_shift (x, y, z) (chkI_zero.1 hc).2.2
  have hn : ∀ c ∈ l.map (shiftC (x, y, z)), Near c 1000 := fun c h => by
    obtain ⟨d, hd, rfl⟩ := List.mem_map.1 h
    exact ht d hd
  refine (shiftZ_fit l v (x, y, z) w hl hc (vec_near (hs.mono (by omega))) (out_near hn)).mono ?_
  rintro e w' ⟨B, rfl, -, hF, hBel⟩
  rw [sort_up hu] at hF
  exact gives_row hF (List.length_map _) (chkI_zero.1 hc).1 hBel
theorem cutM {a b X : List Cel} {va vb : Value} {w : World} (hX : (a.filter fun c => decide (c ∈ b)) = X) (ha : Sl w va a) (hb : St w vb b) (ca : chkI a = 0) (cb : chkI b = 0) :
    Calls Tryz.prog 12 #[va, vb] w (Gives w X) := by
  subst hX
  obtain ⟨h1, A, cap, rfl, h2, h3⟩ := hb
  refine (cut_ok a b va A cap w ha h1 h2 h3 ca cb).mono ?_
  rintro e w' ⟨v, rfl, h4, h5⟩
  exact gives_own h4 h5
theorem apartM {a b : List Cel} {va vb : Value} {w : World} (ha : Sl w va a) (hb : St w vb b) (ca : chkI a = 0) (cb : chkI b = 0) (na : 0 < a.length) (nb : 0 < b.length) :
    Calls Tryz.prog 13 #[va, vb] w fun e w' => ∃ m, e = .returned (.tuple #[.int .i64 m, .int .i64 0]) ∧ Least a b m ∧ Below w.heap.size w w' := by
  obtain ⟨h1, A, cap, rfl, h2, h3⟩ := hb
  exact apartG_ok a b va _ cap w ha h1 ca cb na nb h2 h3 ⟨A, rfl⟩
theorem sameM {l m : List Cel} {v u : Value} {w : World} (h : l = m) (hl : Sl w v l) (hm : Sl w u m) (hc : l.length ≤ 4096) :
    Calls Tryz.prog 14 #[v, u] w fun e w' => e = .returned (.bool true) ∧ Below w.heap.size w w' := by
  refine (sameSl l m v u w hl hm hc).mono ?_
  rintro e w' ⟨rfl, q, rfl⟩
  exact ⟨by rw [decide_eq_true h], ⟨rfl, rfl, rfl, Nat.le_refl _, fun _ _ => rfl⟩⟩
end Go.Proofs
end

section
/- Small functions of chapter 1's statements: first, when, ShortCells, cells. -/
namespace Go.Proofs
open Go.RowKit
set_option maxHeartbeats 8000000
set_option maxRecDepth 1000000
def shortB (n : Nat) (m : Int) : Bool := decide ((n : Int) ≤ m) || (decide (4096 < n) && decide (n ≤ 4098))
theorem short_ok (A : Option Addr) (n cap : Nat) (m : Int) (w : World) :
    Calls Tryz.prog 55 #[.slice A n cap, .int .i64 m] w fun e w' => e = .returned (.bool (shortB n m)) ∧ w' = w := by
  by_cases h1 : (n : Int) ≤ m
  · have e : shortB n m = true := by unfold shortB; rw [decide_eq_true h1]; rfl
    rw [e]
    clear e
    go_enter Tryz.func55, Tryz.ntmps55
    go_wp2
    go_ret
    exact ⟨rfl, rfl⟩
  · by_cases h2 : (4096 : Int) < n
    · by_cases h3 : (n : Int) ≤ 4098
      · have e : shortB n m = true := by unfold shortB; rw [decide_eq_false h1, decide_eq_true (by omega : 4096 < n), decide_eq_true (by omega : n ≤ 4098)]; rfl
        rw [e]
        clear e
        go_enter Tryz.func55, Tryz.ntmps55
        go_wp2
        go_ret
        exact ⟨rfl, rfl⟩
      · have e : shortB n m = false := by unfold shortB; rw [decide_eq_false h1, decide_eq_true (by omega : 4096 < n), decide_eq_false (by omega : ¬ n ≤ 4098)]; rfl
        rw [e]
        clear e
        go_enter Tryz.func55, Tryz.ntmps55
        go_wp2
        go_ret
        exact ⟨rfl, rfl⟩
    · have e : shortB n m = false := by unfold shortB; rw [decide_eq_false h1, decide_eq_false (by omega : ¬ 4096 < n)]; rfl
      rw [e]
      clear e
      go_enter Tryz.func55, Tryz.ntmps55
      go_wp2
      go_ret
      exact ⟨rfl, rfl⟩
/-- The first number that is not 0. -/
def fstI : List Int → Int
  | [] => 0
  | x :: l => if x = 0 then fstI l else x
theorem fstI_step {l : List Int} {k : Nat} {x : Int} (hx : l[k]? = some x) : fstI (l.drop k) = if x = 0 then fstI (l.drop (k + 1)) else x := by
  obtain ⟨h1, h2⟩ := List.getElem?_eq_some_iff.1 hx
  rw [List.drop_eq_getElem_cons h1, h2]
  rfl
end Go.Proofs
end
