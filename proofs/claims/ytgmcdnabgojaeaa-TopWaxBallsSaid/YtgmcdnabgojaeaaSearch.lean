import Derived.Test.YtgmcdnabgojaeaaGoodT
import Derived.Test.YtgmcdnabgojaeaaRefD
import Derived.Test.YtgmcdnabgojaeaaOutP
import Derived.Deep.RegionHeld3
section
/- A part of what Dist had: distI, distance_ok. -/
namespace Go.Proofs
open Go.RowKit
set_option maxHeartbeats 8000000
set_option maxRecDepth 1000000
def distI (a b : Cel) : Int := max (a.1 - b.1) (b.1 - a.1) + max (a.2.1 - b.2.1) (b.2.1 - a.2.1) + max (a.2.2 - b.2.2) (b.2.2 - a.2.2)
theorem distance_ok (a b : Cel) (ha : Near a 3000) (hb : Near b 3000) (w : World) :
    Calls Try.prog 36 #[cellV a, cellV b] w fun e w' => e = .returned (.int .i64 (distI a b)) ∧ Below w.heap.size w w' := by
  obtain ⟨x, y, z⟩ := a
  obtain ⟨x', y', z'⟩ := b
  unfold Near at ha hb
  unfold distI cellV
  dsimp only at ha hb ⊢
  have a1 := wrapS (n := x - x') (by omega)
  have a2 := wrapS (n := x' - x) (by omega)
  have b1 := wrapS (n := y - y') (by omega)
  have b2 := wrapS (n := y' - y) (by omega)
  have c1 := wrapS (n := z - z') (by omega)
  have c2 := wrapS (n := z' - z) (by omega)
  have d1 := wrapS (n := max (x - x') (x' - x) + max (y - y') (y' - y)) (by omega)
  have d2 := wrapS (n := max (x - x') (x' - x) + max (y - y') (y' - y) + max (z - z') (z' - z)) (by omega)
  clear ha hb
  go_enter Try.func36, Try.ntmps36
  go_wp2
  go_ret
  exact ⟨rfl, ((Below.refl _ _).alloc (Nat.le_refl _) _).alloc (by simp) _⟩
end Go.Proofs
end

section
/- A part of what ApartR had: Least, Least.uniq. -/
namespace Go.Proofs
open Go.RowKit
set_option maxHeartbeats 8000000
set_option maxRecDepth 1000000
/-- The least distance of two sets. -/
def Least (a b : List Cel) (m : Int) : Prop := (∃ x ∈ a, ∃ y ∈ b, distI x y = m) ∧ ∀ x ∈ a, ∀ y ∈ b, m ≤ distI x y
theorem Least.uniq {a b : List Cel} {m n : Int} (h : Least a b m) (k : Least a b n) : m = n := by
  obtain ⟨⟨x, hx, y, hy, rfl⟩, h2⟩ := h
  obtain ⟨⟨x', hx', y', hy', rfl⟩, k2⟩ := k
  have := h2 x' hx' y' hy'
  have := k2 x hx y hy
  omega
end Go.Proofs
end

section
/- Apart's search: the first of the cells whose X is near enough. -/
namespace Go.Proofs
open Go.RowKit
set_option maxHeartbeats 8000000
set_option maxRecDepth 1000000
theorem apart1_ok (i : Nat) (b2 o2 n kb : Nat) (x' cx m : Int) (p q r : Nat) (w : World) (hi : i < n) (hp : w.cell? ⟨p, 0, none⟩ = some (.slice (some ⟨b2, o2, none⟩) n kb)) (hb : w.cell? ⟨b2, o2 + i * 3, none⟩ = some (.int .i64 x')) (hq : w.cell? ⟨q, 0, none⟩ = some (.int .i64 cx)) (hr : w.cell? ⟨r, 0, none⟩ = some (.int .i64 m)) (hc : -9000000 ≤ cx - m ∧ cx - m ≤ 9000000) :
    Calls Try.prog 38 #[.int .i64 i, .pointer (some ⟨p, 0, none⟩), .pointer (some ⟨q, 0, none⟩), .pointer (some ⟨r, 0, none⟩)] w fun e w' => e = .returned (.bool (decide (cx - m < x'))) ∧ Below w.heap.size w w' := by
  have a1 := wrapS hc
  have h0 : (0 : Int) ≤ i := by omega
  have h1 : (i : Int) < n := by omega
  clear hc hi
  go_enter Try.func38, Try.ntmps38
  go_wp2
  go_quiet (fail)
  go_wp2
  go_ret
  exact ⟨rfl, ⟨rfl, rfl, rfl, Nat.le_refl _, fun _ _ => rfl⟩⟩
theorem search_ok (n : Nat) (hn : n ≤ 100000) (pr : Nat → Bool) (p q r : Nat) (w : World)
    (hf : ∀ i : Nat, i < n → ∀ W, Below w.heap.size w W → Calls Try.prog 38 #[.int .i64 i, .pointer (some ⟨p, 0, none⟩), .pointer (some ⟨q, 0, none⟩), .pointer (some ⟨r, 0, none⟩)] W fun e w' => e = .returned (.bool (pr i)) ∧ Below W.heap.size W w') :
    Calls Try.prog 37 #[.int .i64 n, .func (.func 38) #[] #[.pointer (some ⟨p, 0, none⟩), .pointer (some ⟨q, 0, none⟩), .pointer (some ⟨r, 0, none⟩)]] w fun e w' => ∃ k : Nat, e = .returned (.int .i64 k) ∧ k ≤ n ∧ (0 < k → pr (k - 1) = false) ∧ Below w.heap.size w w' := by
  go_enter Try.func37, Try.ntmps37
  go_wp2
  go_loopw [5, 6] (fun s t wr => ∃ i j : Nat, i ≤ j ∧ j ≤ n ∧ s = .int .i64 i ∧ t = .int .i64 j ∧ (0 < i → pr (i - 1) = false) ∧ Below w.heap.size w wr) (fun s t _ => (intOf t).toNat - (intOf s).toNat)
  case atStart => exact ⟨0, n, Nat.zero_le _, Nat.le_refl _, rfl, rfl, fun h => absurd h (Nat.lt_irrefl _), Below.refl _ _⟩
  case round =>
    obtain ⟨i, j, hij, hjn, rfl, rfl, hlo, hB⟩ := hrel
    rename World => w1
    have hLo := Lib.hid hlo
    clear hlo
    rcases Nat.lt_or_eq_of_le hij with hlt | rfl
    · obtain ⟨h, hh⟩ : ∃ h : Nat, h = (i + j) / 2 := ⟨_, rfl⟩
      have h1 : i ≤ h := by omega
      have h2 : h < j := by omega
      have hf1 := hf h (by omega) w1 hB
      have hlt' : (i : Int) < j := by omega
      have a1 := wrapS (n := (i : Int) + j) (by omega)
      have he : ((i : Int) + j) / 2 = h := by omega
      have a2 := wrapS (n := (h : Int) + 1) (by omega)
      clear hh hf
      cases hv : pr h with
      | true =>
        rw [hv] at hf1
        clear hv
        go_wp2_with (go_at_call 38; refine hf1.mono ?_; rintro e w2 ⟨rfl, hB2⟩)
        exact ⟨⟨i, h, h1, by omega, rfl, rfl, hLo.out, hB.trans (hB2.mono hB.size)⟩, by simp [intOf]; omega⟩
      | false =>
        rw [hv] at hf1
        have Hv := Lib.hid hv
        clear hv
        go_wp2_with (go_at_call 38; refine hf1.mono ?_; rintro e w2 ⟨rfl, hB2⟩)
        exact ⟨⟨h + 1, j, by omega, hjn, rfl, rfl, fun _ => by rw [Nat.add_sub_cancel]; exact Hv.out, hB.trans (hB2.mono hB.size)⟩, by simp [intOf]; omega⟩
    · clear hf
      go_wp2
      go_ret
      exact ⟨i, rfl, hjn, hLo.out, hB⟩
end Go.Proofs
end
