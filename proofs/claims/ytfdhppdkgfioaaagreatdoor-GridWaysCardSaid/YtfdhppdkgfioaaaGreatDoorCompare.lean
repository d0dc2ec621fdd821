import Derived.Test.YtfdhppdkgfioaaaGreatDoorRows
import Derived.WalkKit
import Derived.ProofKit
import Derived.OpenShut
import Derived.Test.YtfdhppdkgfioaaaGreatDoorProg
import Derived.Sort.Grow
import Derived.Deep.Draws
import Derived.StillTailTactics
section
/- What a law's row asks behind the call, from the contract 'true, and all that was there is as it was'. -/
namespace Go.Proofs.YtfdhppdkgfioaaaGreatDoor
open Go.ChangeShapes Go.WideShapes Go.ChangeAt Go.RowKit
theorem law_post {H : Type} {enc : TypeId × Value → H} {P : Program} {f : Func} {s : ChangeSpec} {o1 o2 o3 o4 : Bool} {W W' : World} {args : Array Value} {ds : List (DataW H)} {pl : List MemPlace} {T : TypeId}
    (hW : DataW.Whole enc P f.params.toList s.vars o1 W args.toList ds [] pl) (hT : f.resultTypes = #[T]) (hv : s.vars = [])
    (hB : P.underlying T = some .bool) (hs : s.fn H (ds ++ []) = { results := [.lit (.bool true)], args := ds })
    (ha : ∀ sp : Nat → Bool, (∀ p ∈ pl, sp p.block = true) → DataW.TrodAll enc P W' 0 sp true f.params.toList args.toList ds pl)
    (hb : Below W.heap.size W W') : s.post enc P f o1 o2 o3 o4 W args (.bool true) W' := by
  have hin : ∀ p, p ∈ pl → p.block < W.heap.size := fun p hp => hW.lt p hp
  have hr : ∀ (b : Nat) (sp : Nat → Bool) (h : Bool), DataW.TrodAll enc P W' b sp h f.resultTypes.toList ((Value.bool true).resultList f.resultTypes.size) (s.fn H (ds ++ [])).results [] := fun b sp h => by
    rw [hT, hs]
    exact trodAll_cons_mk (shut_bool hB _) trodAll_mk0
  have ha' : ∀ sp : Nat → Bool, (∀ p ∈ pl, sp p.block = true) → DataW.TrodAll enc P W' 0 sp true f.params.toList args.toList (s.fn H (ds ++ [])).args pl := by
    rw [hs]
    exact ha
  have hvs : ∀ sp : Nat → Bool, DataW.TrodVars enc P W' sp s.vars (s.fn H (ds ++ [])).vars [] := fun sp => by
    rw [hs, hv]
    exact rfl
  refine ⟨ds, [], pl, [], pl, [], hW, hr _ _ _, ha' _ (fun p hp => decide_eq_true (hin p hp)), hvs _, World.keptBut_mono (fun p hp => ⟨hp, .inr (.inl hp)⟩) (hb.frame _), fun _ => ⟨?_, ?_⟩⟩
  · exact ok_one hT rfl (okWide_bool_mk hB _)
  · have hall := trodAll_append (ha' (fun _ => true) (fun _ _ => rfl)) (hr 0 (fun _ => true) true)
    obtain ⟨_, _, _, _, _, hz, hn⟩ := hW
    refine ⟨_, _, [] ++ pl ++ [], ⟨[] ++ pl, [], hall, hvs _, rfl, fun b off hp => ?_, fun e => ?_⟩, fun p hp _ => ?_⟩
    · have hp' : MemPlace.cell b off ∈ pl := by simpa using hp
      rw [hb.frozen (p := ⟨b, off, none⟩) (hin _ hp')]
      exact hz b off hp'
    · have := hn e
      simpa using this
    · simpa using hp
end Go.Proofs.YtfdhppdkgfioaaaGreatDoor
end

section
namespace Go.Proofs
open Go.RowKit (wrap64)
set_option maxHeartbeats 4000000
theorem isNaN_ok (x : Int) (w : World) : Calls Tryz.prog 188 #[.int .i64 x] w fun e w' => e = .returned (.bool false) ∧ w' = w := by
  go_enter Tryz.func188, Tryz.ntmps188
  go_wp2
  go_ret
  exact ⟨rfl, rfl⟩
def cmpI (x y : Int) : Int := if x < y then -1 else if y < x then 1 else 0
theorem cmp_ok (x y : Int) (w : World) : Calls Tryz.prog 173 #[.int .i64 x, .int .i64 y] w fun e w' => e = .returned (.int .i64 (cmpI x y)) ∧ w' = w := by
  unfold cmpI
  go_enter Tryz.func173, Tryz.ntmps173
  go_wp2_with (go_at_call 188; refine (isNaN_ok _ _).mono ?_; rintro e w' ⟨rfl, rfl⟩)
  all_goals go_ret
  all_goals exact ⟨rfl, rfl⟩
def orI (a b c : Int) : Int := if a ≠ 0 then a else if b ≠ 0 then b else c
theorem or_ok (a b c : Int) (blk cap : Nat) (w : World) (h0 : w.cell? ⟨blk, 0, none⟩ = some (.int .i64 a)) (h1 : w.cell? ⟨blk, 1, none⟩ = some (.int .i64 b)) (h2 : w.cell? ⟨blk, 2, none⟩ = some (.int .i64 c)) :
    Calls Tryz.prog 172 #[.slice (some ⟨blk, 0, none⟩) 3 cap] w fun e w' => e = .returned (.int .i64 (orI a b c)) ∧ w' = w := by
  go_enter Tryz.func172, Tryz.ntmps172
  go_wp2
  refine wp_loop_rounds 4 ?_
  rw [rounds_succ]
  go_wp2
  all_goals (try (rw [rounds_succ]; go_wp2))
  all_goals (try (rw [rounds_succ]; go_wp2))
  all_goals (try (rw [rounds_succ]; go_wp2))
  all_goals go_ret
  all_goals (refine ⟨?_, rfl⟩; unfold orI; simp_all)
end Go.Proofs
end

section
namespace Go.Proofs
set_option maxHeartbeats 4000000
set_option maxRecDepth 1000000
def cmp3 (x1 y1 z1 x2 y2 z2 : Int) : Int := orI (cmpI x1 x2) (cmpI y1 y2) (cmpI z1 z2)
def c3V (x y z : Int) : Array Value := #[.int .i64 x, .int .i64 y, .int .i64 z]
theorem compare_ok (x1 y1 z1 x2 y2 z2 : Int) (w : World) :
    Calls Tryz.prog 154 #[.agg #[.int .i64 x1, .int .i64 y1, .int .i64 z1], .agg #[.int .i64 x2, .int .i64 y2, .int .i64 z2]] w fun e w' => e = .returned (.int .i64 (cmp3 x1 y1 z1 x2 y2 z2)) ∧ ∃ q os, w' = Sort.grow (w.drewN q) os := by
  unfold cmp3
  have hc1 := fun W => cmp_ok x1 x2 W
  have hc2 := fun W => cmp_ok y1 y2 W
  have hc3 := fun W => cmp_ok z1 z2 W
  generalize cmpI x1 x2 = r1 at hc1 ⊢
  generalize cmpI y1 y2 = r2 at hc2 ⊢
  generalize cmpI z1 z2 = r3 at hc3 ⊢
  have ho := fun blk W => or_ok r1 r2 r3 blk 3 W
  generalize orI r1 r2 r3 = r at ho ⊢
  obtain ⟨W, hW⟩ : ∃ W, W = (w.alloc (.cells #[.int .i64 x1, .int .i64 y1, .int .i64 z1] 203)).alloc (.cells #[.int .i64 x2, .int .i64 y2, .int .i64 z2] 203) := ⟨_, rfl⟩
  have a0 : W.cell? ⟨w.heap.size, 0, none⟩ = some (.int .i64 x1) := by subst hW; go_simp
  have a1 : W.cell? ⟨w.heap.size, 1, none⟩ = some (.int .i64 y1) := by subst hW; go_simp
  have a2 : W.cell? ⟨w.heap.size, 2, none⟩ = some (.int .i64 z1) := by subst hW; go_simp
  have b0 : W.cell? ⟨w.heap.size + 1, 0, none⟩ = some (.int .i64 x2) := by subst hW; go_simp
  have b1 : W.cell? ⟨w.heap.size + 1, 1, none⟩ = some (.int .i64 y2) := by subst hW; go_simp
  have b2 : W.cell? ⟨w.heap.size + 1, 2, none⟩ = some (.int .i64 z2) := by subst hW; go_simp
  have hsz : W.heap.size = w.heap.size + 2 := by subst hW; simp
  go_enter Tryz.func154, Tryz.ntmps154
  go_wp2
  rw [← hW]
  refine wp_region_still_tail 15 (by kernel_rfl) (by kernel_rfl) ?_
  simp only [List.take_succ_cons, List.take_zero, List.drop_succ_cons, List.drop_zero]
  change wpStill _ _ W.drew (fun a' => wpList _ _ _ _ a' W.drew) _ _
  still_step
  still_step
  still_step
  still_step
  still_call (hc1 _)
  still_step
  still_step
  still_step
  still_step
  still_call (hc2 _)
  still_step
  still_step
  still_step
  still_step
  still_call (hc3 _)
  refine wpStill_nil ?_
  obtain ⟨W2, hW2⟩ : ∃ W2, W2 = W.drew := ⟨_, rfl⟩
  rw [← hW2]
  have hg : ∃ q os, W2 = Sort.grow (w.drewN q) os := ⟨1, _, by rw [hW2, hW, Sort.alloc_eq_grow, Sort.alloc_eq_grow, Sort.grow_grow]; rfl⟩
  have h0 : (W2.alloc (.cells #[.int .i64 r1, .int .i64 r2, .int .i64 r3] 3)).cell? ⟨W2.heap.size, 0, none⟩ = some (.int .i64 r1) := by go_simp
  have h1 : (W2.alloc (.cells #[.int .i64 r1, .int .i64 r2, .int .i64 r3] 3)).cell? ⟨W2.heap.size, 1, none⟩ = some (.int .i64 r2) := by go_simp
  have h2 : (W2.alloc (.cells #[.int .i64 r1, .int .i64 r2, .int .i64 r3] 3)).cell? ⟨W2.heap.size, 2, none⟩ = some (.int .i64 r3) := by go_simp
  have ho' := ho _ _ h0 h1 h2
  clear h0 h1 h2 ho hc1 hc2 hc3 a0 a1 a2 b0 b1 b2 hW2 hsz hW
  go_wp2_with (go_at_call 172; refine ho'.mono ?_; rintro e w' ⟨rfl, rfl⟩)
  go_ret
  obtain ⟨q, os, rfl⟩ := hg
  exact ⟨rfl, q, _, by rw [Sort.alloc_eq_grow, Sort.grow_grow]⟩
end Go.Proofs
end
