/- The reference's Apart. -/
import Derived.Test.YtokhbkhoidpefaaGreatDoorSearch
import Derived.Test.YtokhbkhoidpefaaGreatDoorCheckG
import Derived.Deep.RegionHeld3
namespace Go.Proofs
open Go.RowKit
set_option maxHeartbeats 8000000
set_option maxRecDepth 1000000
/-- The least distance of two sets. -/
def Least (a b : List Cel) (m : Int) : Prop := (∃ x ∈ a, ∃ y ∈ b, distI x y = m) ∧ ∀ x ∈ a, ∀ y ∈ b, m ≤ distI x y
theorem Least.uniq {a b : List Cel} {m n : Int} (h : Least a b m) (k : Least a b n) : m = n := by
  obtain ⟨⟨x, hx, y, hy, rfl⟩, h2⟩ := h
  obtain ⟨⟨x', hx', y', hy', rfl⟩, k2⟩ := k
  have := h2 x' hx' y' hy'
  have := k2 x hx y hy
  omega
theorem refApart_ok (a b : List Cel) (va vb : Value) (w : World) (ha : Sl w va a) (hb : Sl w vb b) (la : a.length ≤ 100000) (lb : b.length ≤ 100000) (na : ∀ c ∈ a, Near c 3000) (nb : ∀ c ∈ b, Near c 3000) (h0a : 0 < a.length) (h0b : 0 < b.length) :
    Calls Tryz.prog 37 #[va, vb] w fun e w' => ∃ m, e = .returned (.int .i64 m) ∧ Least a b m ∧ Below w.heap.size w w' := by
  obtain ⟨A, ka, rfl⟩ := ha.form
  obtain ⟨B, kb, rfl⟩ := hb.form
  obtain ⟨b1, o1, x, y, z, eA, -, hb1, hc1, r0, r1, r2⟩ := ha.cells h0a
  obtain ⟨b2, o2, x', y', z', eB, -, hb2, hc2, q0, q1, q2⟩ := hb.cells h0b
  subst eA eB
  have hd := fun W => refDistance_ok (x, y, z) (x', y', z') (na _ (List.mem_of_getElem? hc1)) (nb _ (List.mem_of_getElem? hc2)) W
  unfold cellV at hd
  dsimp only at hd
  have hla : (0 : Int) < a.length := by omega
  have hlb : (0 : Int) < b.length := by omega
  rw [Nat.zero_mul, Nat.add_zero] at r0 r1 r2 q0 q1 q2
  have hD : distI (x, y, z) (x', y', z') = distI (x, y, z) (x', y', z') := rfl
  generalize hm0 : distI (x, y, z) (x', y', z') = m0 at hd hD
  have Hm0 := Lib.hid hm0
  clear hm0 hD
  go_enter Tryz.func37, Tryz.ntmps37
  go_wp2
  go_region_held3 (fun w' => w'.cell? ⟨b1, o1, none⟩ = some (.int .i64 x) ∧ w'.cell? ⟨b1, o1 + 1, none⟩ = some (.int .i64 y) ∧ w'.cell? ⟨b1, o1 + 2, none⟩ = some (.int .i64 z) ∧ w'.cell? ⟨b2, o2, none⟩ = some (.int .i64 x') ∧ w'.cell? ⟨b2, o2 + 1, none⟩ = some (.int .i64 y') ∧ w'.cell? ⟨b2, o2 + 2, none⟩ = some (.int .i64 z')) (first | exact ⟨r0, r1, r2, q0, q1, q2⟩ | exact hS1 | go_keep) (first
    | (go_at_call 98; refine (hd _).mono ?_; rintro e w1 ⟨rfl, hB1⟩; have hS1 := (⟨(hB1.cell (p := ⟨b1, _, none⟩) hb1).trans r0, (hB1.cell (p := ⟨b1, _, none⟩) hb1).trans r1, (hB1.cell (p := ⟨b1, _, none⟩) hb1).trans r2, (hB1.cell (p := ⟨b2, _, none⟩) hb2).trans q0, (hB1.cell (p := ⟨b2, _, none⟩) hb2).trans q1, (hB1.cell (p := ⟨b2, _, none⟩) hb2).trans q2⟩ : w1.cell? ⟨b1, o1, none⟩ = some (.int .i64 x) ∧ w1.cell? ⟨b1, o1 + 1, none⟩ = some (.int .i64 y) ∧ w1.cell? ⟨b1, o1 + 2, none⟩ = some (.int .i64 z) ∧ w1.cell? ⟨b2, o2, none⟩ = some (.int .i64 x') ∧ w1.cell? ⟨b2, o2 + 1, none⟩ = some (.int .i64 y') ∧ w1.cell? ⟨b2, o2 + 2, none⟩ = some (.int .i64 z'))))
  rename_i hHeld
  clear hHeld hS1 r0 r1 r2 q0 q1 q2 hd
  have hB01 : Below w.heap.size w w1 := ⟨hB1.os, hB1.tape, hB1.output, hB1.size, hB1.block⟩
  clear hB1
  have hfirst : ∃ p ∈ a, ∃ q ∈ b, distI p q = m0 := ⟨_, List.mem_of_getElem? hc1, _, List.mem_of_getElem? hc2, Hm0.out⟩
  clear Hm0 hc1 hc2
  go_wp2
  go_loopw [5, 6] (fun s i wr => ∃ (k : Nat) (m : Int), k ≤ a.length ∧ i = .int .i64 k ∧ s = .int .i64 m ∧ (∃ p ∈ a, ∃ q ∈ b, distI p q = m) ∧ (∀ p ∈ a.take k, ∀ q ∈ b, m ≤ distI p q) ∧ Below w.heap.size w wr) (fun _ i _ => a.length - (intOf i).toNat)
  case atStart => exact ⟨0, m0, Nat.zero_le _, rfl, rfl, hfirst, fun p hp => by simp at hp, hB01⟩
  case round =>
    clear hB01 hfirst
    obtain ⟨k, m, hk, rfl, rfl, hex, hall, hB⟩ := hrel
    rename World => w2
    rcases Nat.lt_or_eq_of_le hk with hkn | rfl
    · have hk0 : (0 : Int) ≤ k := by omega
      have hk1 : (k : Int) < a.length := by omega
      obtain ⟨bk, ok, xk, yk, zk, ek, -, hbk, hck, r0, r1, r2⟩ := ha.cells hkn
      injection ek with ek
      injection ek with ek1 ek2
      subst ek1 ek2
      have na' := na _ (List.mem_of_getElem? hck)
      have hHex := Lib.hid hex
      have hHall := Lib.hid hall
      clear hex hall
      go_wp2
      go_loopw [5, 7] (fun s i wr => ∃ (j : Nat) (m : Int), j ≤ b.length ∧ i = .int .i64 j ∧ s = .int .i64 m ∧ Hid (∃ p ∈ a, ∃ q ∈ b, distI p q = m) ∧ Hid (∀ p ∈ a.take k, ∀ q ∈ b, m ≤ distI p q) ∧ Hid (∀ q ∈ b.take j, m ≤ distI (xk, yk, zk) q) ∧ Below w.heap.size w wr) (fun _ i _ => b.length - (intOf i).toNat)
      case atStart => exact ⟨0, m, Nat.zero_le _, rfl, rfl, hHex, hHall, Lib.hid fun q hq => by simp at hq, hB⟩
      case round =>
        clear hHex hHall hB
        obtain ⟨j, m, hj, rfl, rfl, hex, hall, hpart, hB⟩ := hrel
        rename World => w3
        have hsz := hB.size
        rcases Nat.lt_or_eq_of_le hj with hjn | rfl
        · have hj0 : (0 : Int) ≤ j := by omega
          have hj1 : (j : Int) < b.length := by omega
          obtain ⟨bj, oj, xj, yj, zj, ej, -, hbj, hcj, q0, q1, q2⟩ := hb.cells hjn
          injection ej with ej
          injection ej with ej1 ej2
          subst ej1 ej2
          have hd := fun W => refDistance_ok (xk, yk, zk) (xj, yj, zj) na' (nb _ (List.mem_of_getElem? hcj)) W
          unfold cellV at hd
          dsimp only at hd
          have kS : ∀ W', Below w.heap.size w W' → W'.cell? ⟨b1, o1 + k * 3, none⟩ = some (.int .i64 xk) ∧ W'.cell? ⟨b1, o1 + k * 3 + 1, none⟩ = some (.int .i64 yk) ∧ W'.cell? ⟨b1, o1 + k * 3 + 2, none⟩ = some (.int .i64 zk) ∧ W'.cell? ⟨b2, o2 + j * 3, none⟩ = some (.int .i64 xj) ∧ W'.cell? ⟨b2, o2 + j * 3 + 1, none⟩ = some (.int .i64 yj) ∧ W'.cell? ⟨b2, o2 + j * 3 + 2, none⟩ = some (.int .i64 zj) := fun W' h => ⟨(h.cell (p := ⟨b1, _, none⟩) hb1).trans r0, (h.cell (p := ⟨b1, _, none⟩) hb1).trans r1, (h.cell (p := ⟨b1, _, none⟩) hb1).trans r2, (h.cell (p := ⟨b2, _, none⟩) hb2).trans q0, (h.cell (p := ⟨b2, _, none⟩) hb2).trans q1, (h.cell (p := ⟨b2, _, none⟩) hb2).trans q2⟩
          have hX := hB.trans ((Below.refl w.heap.size w3).drew)
          have hS0 := kS _ hX
          have hnew : (∃ p ∈ a, ∃ q ∈ b, distI p q = min m (distI (xk, yk, zk) (xj, yj, zj))) ∧ (∀ p ∈ a.take k, ∀ q ∈ b, min m (distI (xk, yk, zk) (xj, yj, zj)) ≤ distI p q) ∧ (∀ q ∈ b.take (j + 1), min m (distI (xk, yk, zk) (xj, yj, zj)) ≤ distI (xk, yk, zk) q) := by
            refine ⟨?_, fun p hp q hq => ?_, fun q hq => ?_⟩
            · rcases Int.le_total m (distI (xk, yk, zk) (xj, yj, zj)) with h | h
              · rw [Int.min_eq_left h]; exact hex.out
              · rw [Int.min_eq_right h]; exact ⟨_, List.mem_of_getElem? hck, _, List.mem_of_getElem? hcj, rfl⟩
            · have := hall.out p hp q hq
              omega
            · rw [List.take_add_one, hcj] at hq
              rcases List.mem_append.1 hq with hq | hq
              · have := hpart.out q hq
                omega
              · simp at hq
                subst hq
                omega
          have hNew := Lib.hid hnew
          generalize distI (xk, yk, zk) (xj, yj, zj) = dd at hd hNew
          clear hnew hex hall hpart ha hb r0 r1 r2 q0 q1 q2 hck hcj na' na nb
          go_wp2
          go_region_held3 (fun w' => w'.cell? ⟨b1, o1 + k * 3, none⟩ = some (.int .i64 xk) ∧ w'.cell? ⟨b1, o1 + k * 3 + 1, none⟩ = some (.int .i64 yk) ∧ w'.cell? ⟨b1, o1 + k * 3 + 2, none⟩ = some (.int .i64 zk) ∧ w'.cell? ⟨b2, o2 + j * 3, none⟩ = some (.int .i64 xj) ∧ w'.cell? ⟨b2, o2 + j * 3 + 1, none⟩ = some (.int .i64 yj) ∧ w'.cell? ⟨b2, o2 + j * 3 + 2, none⟩ = some (.int .i64 zj)) (first | exact hS0 | exact hS1 | go_keep) (first
            | (go_at_call 98; refine (hd _).mono ?_; rintro e w4 ⟨rfl, hB4⟩; have hX4 := hX.trans (hB4.mono hX.size); have hS1 := kS _ hX4))
          rename_i hHeld
          clear hHeld hS0 hS1 kS hd hX
          go_wp2
          exact ⟨⟨j + 1, _, hjn, rfl, rfl, Lib.hid hNew.out.1, Lib.hid hNew.out.2.1, Lib.hid hNew.out.2.2, hX4⟩, by simp [intOf]; omega⟩
        · have hall' : ∀ p ∈ a.take (k + 1), ∀ q ∈ b, m ≤ distI p q := fun p hp q hq => by
            rw [List.take_add_one, hck] at hp
            rcases List.mem_append.1 hp with hp | hp
            · exact hall.out p hp q hq
            · simp at hp
              subst hp
              have := hpart.out q (by rw [List.take_length]; exact hq)
              omega
          have hHall := Lib.hid hall'
          clear hall' hall hpart r0 r1 r2 hck na'
          go_wp2
          go_roundw
          case rel => exact ⟨k + 1, m, hkn, rfl, rfl, hex.out, hHall.out, hB⟩
          case measure => simp [intOf]; omega
    · have hL : Least a b m := ⟨hex, fun p hp q hq => hall p (by rw [List.take_length]; exact hp) q hq⟩
      have HL := Lib.hid hL
      clear hL hex hall
      go_wp2
      go_ret
      exact ⟨m, rfl, HL.out, hB⟩
end Go.Proofs
