import Derived.Test.YtokhbkhoidpefaaGreatDoorGoodT
import Derived.Test.YtokhbkhoidpefaaGreatDoorRefD
import Derived.Test.YtokhbkhoidpefaaGreatDoorCheckG
import Derived.Deep.RegionHeld3
section
/- The distance of two cells. -/
namespace Go.Proofs
open Go.RowKit
set_option maxHeartbeats 8000000
set_option maxRecDepth 1000000
def distI (a b : Cel) : Int := max (a.1 - b.1) (b.1 - a.1) + max (a.2.1 - b.2.1) (b.2.1 - a.2.1) + max (a.2.2 - b.2.2) (b.2.2 - a.2.2)
theorem distance_ok (a b : Cel) (ha : Near a 3000) (hb : Near b 3000) (w : World) :
    Calls Tryz.prog 95 #[cellV a, cellV b] w fun e w' => e = .returned (.int .i64 (distI a b)) ∧ Below w.heap.size w w' := by
  obtain ⟨x, y, z⟩ := a
  obtain ⟨x', y', z'⟩ := b
  unfold Near at ha hb
  unfold distI cellV
  dsimp only at ha hb ⊢
  have a1 := wrapS (n := x - x') (by omega)
  have a2 := wrapS (n := x' - x) (by omega)
  have b1 := wrapS (n := y - y') (by omega)
  have b2 := wrapS (n := y' - y) (by omega)
  have c1 := wrapS (n := z - z') (by omega)
  have c2 := wrapS (n := z' - z) (by omega)
  have d1 := wrapS (n := max (x - x') (x' - x) + max (y - y') (y' - y)) (by omega)
  have d2 := wrapS (n := max (x - x') (x' - x) + max (y - y') (y' - y) + max (z - z') (z' - z)) (by omega)
  clear ha hb
  go_enter Tryz.func95, Tryz.ntmps95
  go_wp2
  go_ret
  exact ⟨rfl, ((Below.refl _ _).alloc (Nat.le_refl _) _).alloc (by simp) _⟩
theorem size1_ok (n : Int) (h : -9000000 ≤ n ∧ n ≤ 9000000) (w : World) :
    Calls Tryz.prog 135 #[.int .i64 n] w fun e w' => e = .returned (.int .i64 (max n (-n))) ∧ w' = w := by
  have a1 := wrapS (n := -n) (by omega)
  clear h
  go_enter Tryz.func135, Tryz.ntmps135
  go_wp2
  go_ret
  exact ⟨by simp, rfl⟩
theorem refDistance_ok (a b : Cel) (ha : Near a 3000) (hb : Near b 3000) (w : World) :
    Calls Tryz.prog 98 #[cellV a, cellV b] w fun e w' => e = .returned (.int .i64 (distI a b)) ∧ Below w.heap.size w w' := by
  obtain ⟨x, y, z⟩ := a
  obtain ⟨x', y', z'⟩ := b
  unfold Near at ha hb
  have hd : distI (x, y, z) (x', y', z') = max (x - x') (-(x - x')) + max (y - y') (-(y - y')) + max (z - z') (-(z - z')) := by
    unfold distI
    dsimp only
    omega
  rw [hd]
  clear hd
  unfold cellV
  dsimp only at ha hb ⊢
  have a1 := wrapS (n := x - x') (by omega)
  have b1 := wrapS (n := y - y') (by omega)
  have c1 := wrapS (n := z - z') (by omega)
  have s1 := fun W => size1_ok (x - x') (by omega) W
  have s2 := fun W => size1_ok (y - y') (by omega) W
  have s3 := fun W => size1_ok (z - z') (by omega) W
  have hm1 : -6000 ≤ max (x - x') (-(x - x')) ∧ max (x - x') (-(x - x')) ≤ 6000 := by omega
  have hm2 : -6000 ≤ max (y - y') (-(y - y')) ∧ max (y - y') (-(y - y')) ≤ 6000 := by omega
  have hm3 : -6000 ≤ max (z - z') (-(z - z')) ∧ max (z - z') (-(z - z')) ≤ 6000 := by omega
  generalize max (x - x') (-(x - x')) = m1 at s1 hm1 ⊢
  generalize max (y - y') (-(y - y')) = m2 at s2 hm2 ⊢
  generalize max (z - z') (-(z - z')) = m3 at s3 hm3 ⊢
  have d1 := wrapS (n := m1 + m2) (by omega)
  have d2 := wrapS (n := m1 + m2 + m3) (by omega)
  clear ha hb hm1 hm2 hm3
  obtain ⟨W, hW⟩ : ∃ W, W = ((w.alloc (.cells #[.int .i64 x, .int .i64 y, .int .i64 z] 24)).alloc (.cells #[.int .i64 x', .int .i64 y', .int .i64 z'] 24)) := ⟨_, rfl⟩
  have hBW : Below w.heap.size w W := by subst hW; exact ((Below.refl _ _).alloc (Nat.le_refl _) _).alloc (by simp) _
  have e0 : W.cell? ⟨w.heap.size, 0, none⟩ = some (.int .i64 x) := by subst hW; go_simp
  have e1 : W.cell? ⟨w.heap.size, 1, none⟩ = some (.int .i64 y) := by subst hW; go_simp
  have e2 : W.cell? ⟨w.heap.size, 2, none⟩ = some (.int .i64 z) := by subst hW; go_simp
  have e3 : W.cell? ⟨w.heap.size + 1, 0, none⟩ = some (.int .i64 x') := by subst hW; go_simp
  have e4 : W.cell? ⟨w.heap.size + 1, 1, none⟩ = some (.int .i64 y') := by subst hW; go_simp
  have e5 : W.cell? ⟨w.heap.size + 1, 2, none⟩ = some (.int .i64 z') := by subst hW; go_simp
  go_enter Tryz.func98, Tryz.ntmps98
  go_wp2
  rw [← hW]
  clear hW
  go_region_held3 (fun w' => w'.cell? ⟨w.heap.size, 0, none⟩ = some (.int .i64 x) ∧ w'.cell? ⟨w.heap.size, 1, none⟩ = some (.int .i64 y) ∧ w'.cell? ⟨w.heap.size, 2, none⟩ = some (.int .i64 z) ∧ w'.cell? ⟨w.heap.size + 1, 0, none⟩ = some (.int .i64 x') ∧ w'.cell? ⟨w.heap.size + 1, 1, none⟩ = some (.int .i64 y') ∧ w'.cell? ⟨w.heap.size + 1, 2, none⟩ = some (.int .i64 z')) (first | exact ⟨e0, e1, e2, e3, e4, e5⟩ | go_keep) (first | (go_at_call 135; first
    | (with_reducible refine (s1 _).mono ?_; rintro e wr ⟨rfl, hwr⟩; subst hwr)
    | (with_reducible refine (s2 _).mono ?_; rintro e wr ⟨rfl, hwr⟩; subst hwr)
    | (with_reducible refine (s3 _).mono ?_; rintro e wr ⟨rfl, hwr⟩; subst hwr)))
  go_wp2
  go_ret
  exact ⟨rfl, hBW.drew⟩
end Go.Proofs
end

section
/- Apart's search: the first of the cells whose X is near enough. -/
namespace Go.Proofs
open Go.RowKit
set_option maxHeartbeats 8000000
set_option maxRecDepth 1000000
theorem apart1_ok (i : Nat) (b2 o2 n kb : Nat) (x' cx m : Int) (p q r : Nat) (w : World) (hi : i < n) (hp : w.cell? ⟨p, 0, none⟩ = some (.slice (some ⟨b2, o2, none⟩) n kb)) (hb : w.cell? ⟨b2, o2 + i * 3, none⟩ = some (.int .i64 x')) (hq : w.cell? ⟨q, 0, none⟩ = some (.int .i64 cx)) (hr : w.cell? ⟨r, 0, none⟩ = some (.int .i64 m)) (hc : -9000000 ≤ cx - m ∧ cx - m ≤ 9000000) :
    Calls Tryz.prog 97 #[.int .i64 i, .pointer (some ⟨p, 0, none⟩), .pointer (some ⟨q, 0, none⟩), .pointer (some ⟨r, 0, none⟩)] w fun e w' => e = .returned (.bool (decide (cx - m < x'))) ∧ Below w.heap.size w w' := by
  have a1 := wrapS hc
  have h0 : (0 : Int) ≤ i := by omega
  have h1 : (i : Int) < n := by omega
  clear hc hi
  go_enter Tryz.func97, Tryz.ntmps97
  go_wp2
  go_quiet (fail)
  go_wp2
  go_ret
  exact ⟨rfl, ⟨rfl, rfl, rfl, Nat.le_refl _, fun _ _ => rfl⟩⟩
theorem search_ok (n : Nat) (hn : n ≤ 100000) (pr : Nat → Bool) (p q r : Nat) (w : World)
    (hf : ∀ i : Nat, i < n → ∀ W, Below w.heap.size w W → Calls Tryz.prog 97 #[.int .i64 i, .pointer (some ⟨p, 0, none⟩), .pointer (some ⟨q, 0, none⟩), .pointer (some ⟨r, 0, none⟩)] W fun e w' => e = .returned (.bool (pr i)) ∧ Below W.heap.size W w') :
    Calls Tryz.prog 96 #[.int .i64 n, .func (.func 97) #[] #[.pointer (some ⟨p, 0, none⟩), .pointer (some ⟨q, 0, none⟩), .pointer (some ⟨r, 0, none⟩)]] w fun e w' => ∃ k : Nat, e = .returned (.int .i64 k) ∧ k ≤ n ∧ (0 < k → pr (k - 1) = false) ∧ Below w.heap.size w w' := by
  go_enter Tryz.func96, Tryz.ntmps96
  go_wp2
  go_loopw [5, 6] (fun s t wr => ∃ i j : Nat, i ≤ j ∧ j ≤ n ∧ s = .int .i64 i ∧ t = .int .i64 j ∧ (0 < i → pr (i - 1) = false) ∧ Below w.heap.size w wr) (fun s t _ => (intOf t).toNat - (intOf s).toNat)
  case atStart => exact ⟨0, n, Nat.zero_le _, Nat.le_refl _, rfl, rfl, fun h => absurd h (Nat.lt_irrefl _), Below.refl _ _⟩
  case round =>
    obtain ⟨i, j, hij, hjn, rfl, rfl, hlo, hB⟩ := hrel
    rename World => w1
    have hLo := Lib.hid hlo
    clear hlo
    rcases Nat.lt_or_eq_of_le hij with hlt | rfl
    · obtain ⟨h, hh⟩ : ∃ h : Nat, h = (i + j) / 2 := ⟨_, rfl⟩
      have h1 : i ≤ h := by omega
      have h2 : h < j := by omega
      have hf1 := hf h (by omega) w1 hB
      have hlt' : (i : Int) < j := by omega
      have a1 := wrapS (n := (i : Int) + j) (by omega)
      have he : ((i : Int) + j) / 2 = h := by omega
      have a2 := wrapS (n := (h : Int) + 1) (by omega)
      clear hh hf
      cases hv : pr h with
      | true =>
        rw [hv] at hf1
        clear hv
        go_wp2_with (go_at_call 97; refine hf1.mono ?_; rintro e w2 ⟨rfl, hB2⟩)
        exact ⟨⟨i, h, h1, by omega, rfl, rfl, hLo.out, hB.trans (hB2.mono hB.size)⟩, by simp [intOf]; omega⟩
      | false =>
        rw [hv] at hf1
        have Hv := Lib.hid hv
        clear hv
        go_wp2_with (go_at_call 97; refine hf1.mono ?_; rintro e w2 ⟨rfl, hB2⟩)
        exact ⟨⟨h + 1, j, by omega, hjn, rfl, rfl, fun _ => by rw [Nat.add_sub_cancel]; exact Hv.out, hB.trans (hB2.mono hB.size)⟩, by simp [intOf]; omega⟩
    · clear hf
      go_wp2
      go_ret
      exact ⟨i, rfl, hjn, hLo.out, hB⟩
end Go.Proofs
end
