import Derived.Test.YtedjohdoenncbaaGreatDoorSortFunc
import Derived.Deep.QuietTactic
import Derived.BigQuiet
import Derived.Laws.StructEq
import Derived.Shelf.SlicesE.Kit
namespace Go.Proofs
open Go.Shelf Go.RowKit Go.Lib Go.Sort
set_option maxHeartbeats 4000000
set_option maxRecDepth 1000000

theorem Filled.cell {w : World} {B n : Nat} {T : TypeId} {l : List Cel} (h : Filled w B n T l) {i : Nat} {c : Cel} (hc : l[i]? = some c) :
    w.cell? ⟨B, i * 3, none⟩ = some (.int .i64 c.1) ∧ w.cell? ⟨B, i * 3 + 1, none⟩ = some (.int .i64 c.2.1) ∧ w.cell? ⟨B, i * 3 + 2, none⟩ = some (.int .i64 c.2.2) := by
  obtain ⟨arr, ha, has, hav⟩ := h
  obtain ⟨h0, h1, h2⟩ := hav i c hc
  exact ⟨by simp [World.cell?, ha, h0], by simp [World.cell?, ha, h1], by simp [World.cell?, ha, h2]⟩

theorem eqI194 (x y z x' y' z' : Int) (w : World) : (Op.equalIn 10000 183 (.agg #[.int .i64 x, .int .i64 y, .int .i64 z]) (.agg #[.int .i64 x', .int .i64 y', .int .i64 z'])).run Tryz.prog w = .ok (x == x' && (y == y' && z == z')) w := by
  have u3 := Tryz.underlying3
  have a3 := Tryz.isAgg3
  have z3 := Tryz.sizeOf3
  have hS : Tryz.prog.underlying 183 = some (.struct (Tryz.prog.fieldsOf 183)) := by kernel_rfl
  have hp : Tryz.prog.stoodInHeld 183 = false := by kernel_rfl
  rw [show (10000 : Nat) = 9999 + 1 from rfl, run_equalIn_agg w 9999 183 _ _ hS hp]
  simp only [Program.fieldsOf, Tryz.underlying183]
  go_simp
  by_cases h1 : x = x' <;> by_cases h2 : y = y' <;> by_cases h3 : z = z' <;> simp [h1, h2, h3]
theorem compact_ok (l : List Cel) (B cap : Nat) (w : World) (h : Filled w B l.length 183 l) (hn : l.length ≤ 4096) (hd : ∀ i a b, l[i]? = some a → l[i+1]? = some b → a ≠ b) :
    Calls Tryz.prog 146 #[.slice (some ⟨B, 0, none⟩) l.length cap] w fun e w' => e = .returned (.slice (some ⟨B, 0, none⟩) l.length cap) ∧ ∃ q, w' = w.drewN q := by
  go_enter Tryz.func146, Tryz.ntmps146
  go_wp2
  · go_ret
    exact ⟨rfl, 0, rfl⟩
  · go_loopw [3] (fun i wr => ∃ k q : Nat, 1 ≤ k ∧ k ≤ l.length ∧ i = .int .i64 k ∧ wr = w.drewN q) (fun i _ => l.length - (intOf i).toNat)
    case atStart => exact ⟨1, 0, Nat.le_refl _, by omega, rfl, rfl⟩
    case round =>
      obtain ⟨k, q, hk1, hk, rfl, rfl⟩ := hrel
      rcases Nat.lt_or_eq_of_le hk with hkn | rfl
      · obtain ⟨m, rfl⟩ : ∃ m, k = m + 1 := ⟨k - 1, by omega⟩
        obtain ⟨x, y, z, hc⟩ : ∃ x y z, l[m+1]? = some (x, y, z) := ⟨_, _, _, List.getElem?_eq_getElem hkn⟩
        obtain ⟨x', y', z', hc'⟩ : ∃ x y z, l[m]? = some (x, y, z) := ⟨_, _, _, List.getElem?_eq_getElem (by omega)⟩
        obtain ⟨a0, a1, a2⟩ := h.cell hc
        obtain ⟨b0, b1, b2⟩ := h.cell hc'
        have hne := hd m _ _ hc' hc
        have hne' : (x == x' && (y == y' && z == z')) = false := by
          simp only [ne_eq, Prod.mk.injEq, not_and] at hne
          simp only [Bool.and_eq_false_iff, beq_eq_false_iff_ne, ne_eq]
          omega
        have heq := fun W => eqI194 x y z x' y' z' W
        rw [hne'] at heq
        clear h hd hne hne'
        have i0 : (0 : Int) ≤ (m : Int) + 1 := by omega
        have i1 : (m : Int) + 1 < (l.length : Int) := by omega
        have i2 : (m : Int) < (l.length : Int) := by omega
        have i3 : ((m : Int) + 1).toNat = m + 1 := by omega
        have i4 : IntKind.i64.wrap (m : Int) = (m : Int) := by simp [IntKind.wrap, IntKind.bits, IntKind.signed]; omega
        go_wp2_with fail
        go_quiet (fail)
        go_wp2
        refine ⟨⟨m + 2, q + _, by omega, by omega, by rw [show ((m : Int) + 1 + 1) = ((m + 2 : Nat) : Int) by omega], rfl⟩, ?_⟩
        simp [intOf]; omega
      · clear h hd
        go_wp2
        go_ret
        exact ⟨rfl, q, rfl⟩
end Go.Proofs
