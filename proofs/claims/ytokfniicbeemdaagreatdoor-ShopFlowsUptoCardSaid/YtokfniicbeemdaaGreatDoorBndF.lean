/- Jobs: Bound of the reference, the whole. -/
import Derived.Test.YtokfniicbeemdaaGreatDoorBndE
namespace Go.Proofs
open Go.RowKit Go.MapKept
set_option maxHeartbeats 16000000
set_option maxRecDepth 1000000
def mostK (js : List JobT) (k : Nat) : Int := if k = 0 then 0 else bndK js k
theorem mostK_bd {js : List JobT} {m : Nat} (ok : JobsOk m js) (k : Nat) : 0 ≤ mostK js k ∧ mostK js k ≤ 92160 := by
  unfold mostK
  split
  · omega
  · exact bndK_bd ok k
theorem maxJ_bd {js : List JobT} {m : Nat} (ok : JobsOk m js) {x : Int} (hx : 0 ≤ x ∧ x ≤ 92160) : ∀ i, i ≤ js.length → 0 ≤ maxJ js x i ∧ maxJ js x i ≤ 92160
  | 0, _ => by simpa [maxJ] using hx
  | i + 1, hi => by
    obtain ⟨j, hj⟩ : ∃ j, js[i]? = some j := ⟨_, List.getElem?_eq_getElem (by omega)⟩
    have h1 := maxJ_bd ok hx i (by omega)
    have h2 := (befJ_bd (ok.ok j (List.mem_of_getElem? hj)) 0).2.2.1
    rw [maxJ_succ hj]
    omega
theorem minK_bd {l : List Int} {B : Int} (hp : 0 < l.length) (h : ∀ x ∈ l, 0 ≤ x ∧ x ≤ B) : ∀ k, k ≤ l.length → 0 ≤ minK l k ∧ minK l k ≤ B
  | 0, _ => by
    have h1 := h _ (List.getElem_mem hp)
    show 0 ≤ at0 l 0 ∧ at0 l 0 ≤ B
    rw [at0_some (List.getElem?_eq_getElem hp)]
    exact h1
  | k + 1, hk => by
    obtain ⟨x, hx⟩ : ∃ x, l[k]? = some x := ⟨_, List.getElem?_eq_getElem (by omega)⟩
    have h1 := minK_bd hp h k (by omega)
    have h2 := h x (List.mem_of_getElem? hx)
    rw [minK_succ hx]
    omega
theorem map_at {js : List JobT} {f : JobT → Int} {i : Nat} {j : JobT} (h : js[i]? = some j) : (js.map f)[i]? = some (f j) := by
  rw [List.getElem?_map, h]
  rfl
theorem min_cases (a b : Int) : ∃ z, min a b = z ∧ ((b < a ∧ z = b) ∨ (a ≤ b ∧ z = a)) := by
  rcases Int.lt_or_le b a with h | h
  · exact ⟨b, by omega, .inl ⟨h, rfl⟩⟩
  · exact ⟨a, by omega, .inr ⟨h, rfl⟩⟩
theorem max_cases (a b : Int) : ∃ z, max a b = z ∧ ((a < b ∧ z = b) ∨ (b ≤ a ∧ z = a)) := by
  rcases Int.lt_or_le a b with h | h
  · exact ⟨b, by omega, .inl ⟨h, rfl⟩⟩
  · exact ⟨a, by omega, .inr ⟨h, rfl⟩⟩
theorem refBound2_ok (js : List JobT) (m : Nat) (v : Value) (w : World) (hl : SlJ w v js) (ok : JobsOk m js) (hmm : stN js = m) :
    Calls Tryz.prog 30 #[v] w fun e w' => e = .returned (.int .i64 (bndK js m)) ∧ Below w.heap.size w w' := by
  have hpos := ok.pos
  have hfew := ok.few
  have hm8 : 0 < m ∧ m ≤ 8 := by
    obtain ⟨j0, hj0⟩ : ∃ j, js[0]? = some j := ⟨_, List.getElem?_eq_getElem hpos⟩
    have hjo0 := ok.ok _ (List.mem_of_getElem? hj0)
    have h1 := hjo0.d
    have h2 := hjo0.few
    omega
  obtain ⟨bJ, oJ, cap, rfl, hbJ, hat⟩ := hl.addr hpos
  obtain ⟨⟨nm0, t0, d0⟩, hj0⟩ : ∃ j, js[0]? = some j := ⟨_, List.getElem?_eq_getElem hpos⟩
  obtain ⟨vt0, vd0, q0, q1, q2, qt, qd⟩ := hat 0 _ hj0
  dsimp only at q0 q1 q2 qt qd
  rw [Nat.zero_mul, Nat.add_zero] at q0 q1 q2
  have hm0 : t0.length = m := by rw [← hmm]; unfold stN; rw [hj0]
  obtain ⟨At0, ct0, rfl⟩ := qt.form
  obtain ⟨Ad0, cd0, rfl⟩ := qd.form
  have kA0 := fun W (h : Below w.heap.size w W) s hs => around_ok nm0 At0 Ad0 ct0 cd0 t0 d0 m s W (qt.below h) (qd.below h) (ok.ok _ (List.mem_of_getElem? hj0)) hs
  unfold jobV at kA0
  rw [hm0] at q1 kA0
  have hb0 : ∀ s, at0 (js.map fun j => befJ j s) 0 = befJ (nm0, t0, d0) s := fun s => at0_some (map_at hj0)
  have ha0 : ∀ s, at0 (js.map fun j => aftJ j s) 0 = aftJ (nm0, t0, d0) s := fun s => at0_some (map_at hj0)
  have HBA := Lib.hid (And.intro hb0 ha0)
  have HOK := Lib.hid ok
  have HAT := Lib.hid hat
  have HQ := Lib.hid (And.intro q0 (And.intro q1 q2))
  have hn1 : (0 : Int) < js.length := by omega
  have hB0 := Below.refl w.heap.size w
  clear hl hat hj0 qt qd hm0 hmm q0 q1 q2 hb0 ha0
  go_enter Tryz.func30, Tryz.ntmps30
  go_wp2_with fail
  go_loopw [3, 4] (fun most i wr => ∃ k : Nat, k ≤ m ∧ i = .int .i64 k ∧ most = .int .i64 (mostK js k) ∧ Below w.heap.size w wr) (fun _ i _ => m - (intOf i).toNat)
  case atStart => exact ⟨0, Nat.zero_le _, rfl, rfl, hB0⟩
  case round =>
    clear hB0
    obtain ⟨k, hk, rfl, rfl, hX⟩ := hrel
    rename World => w3
    have p0 := (hX.cell (p := ⟨bJ, oJ, none⟩) hbJ).trans HQ.out.1
    have p1 := (hX.cell (p := ⟨bJ, oJ + 1, none⟩) hbJ).trans HQ.out.2.1
    have p2 := (hX.cell (p := ⟨bJ, oJ + 2, none⟩) hbJ).trans HQ.out.2.2
    rcases Nat.lt_or_eq_of_le hk with hkn | rfl
    · have HK := Lib.hid (show k + 1 ≤ m from hkn)
      have HM := Lib.hid (show m - (k + 1) < m - k by omega)
      have HWK := Lib.hid (wrapsV (show k < 1048576 by omega))
      have HKN := Lib.hid hkn
      have hk0 : (0 : Int) ≤ k := by omega
      have hk1 : (k : Int) < m := by omega
      have kA := kA0 _ hX k hkn
      rw [← HBA.out.1 k, ← HBA.out.2 k] at kA
      go_wp2_with fail
      refine kA.mono ?_
      rintro e w4 ⟨rfl, hB⟩
      replace hX := hX.trans (hB.mono hX.size)
      clear kA hB p0 p1 p2
      go_wp2_with fail
      go_loopw [3, 5, 6, 7, 8] (fun most sm be af i wr => ∃ q : Nat, q ≤ js.length ∧ i = .int .i64 q ∧ most = .int .i64 (maxJ js (mostK js k) q) ∧ sm = .int .i64 (sumK (js.map fun j => at0 j.2.1 k) q) ∧ be = .int .i64 (minK (js.map fun j => befJ j k) q) ∧ af = .int .i64 (minK (js.map fun j => aftJ j k) q) ∧ Below w.heap.size w wr) (fun _ _ _ _ i _ => js.length - (intOf i).toNat)
      case atStart => exact ⟨0, Nat.zero_le _, rfl, rfl, rfl, rfl, rfl, hX⟩
      case round =>
        clear hX
        obtain ⟨q, hq, rfl, rfl, rfl, rfl, rfl, hX⟩ := hrel
        rename World => w5
        have hmb := mostK_bd HOK.out k
        have hxb := maxJ_bd HOK.out hmb q hq
        have hpm : ∀ f : JobT → Int, 0 < (js.map f).length := fun f => by rw [List.length_map]; exact hpos
        have hbb := minK_bd (hpm _) (map_bd fun j hj => (befJ_bd (HOK.out.ok j hj) k).1) q (by rw [List.length_map]; exact hq)
        have hab := minK_bd (hpm _) (map_bd fun j hj => (befJ_bd (HOK.out.ok j hj) k).2.1) q (by rw [List.length_map]; exact hq)
        have hsb := sumA_bd (l := (js.map fun j => at0 j.2.1 k).take q) fun x hx => map_bd (fun j hj => (befJ_bd (HOK.out.ok j hj) k).2.2.2) x (List.mem_of_mem_take hx)
        rw [← sumK_take, List.length_take, List.length_map] at hsb
        have hmn : (min q js.length : Nat) ≤ 32 := by omega
        rcases Nat.lt_or_eq_of_le hq with hqn | rfl
        · obtain ⟨⟨nm, t, d⟩, hc⟩ : ∃ j, js[q]? = some j := ⟨_, List.getElem?_eq_getElem hqn⟩
          obtain ⟨vt, vd, j0, j1, j2, ht, hd⟩ := HAT.out q _ hc
          have hjo := HOK.out.ok _ (List.mem_of_getElem? hc)
          dsimp only at j0 j1 j2 ht hd
          have hxs := maxJ_succ (most := mostK js k) hc
          have hbs := minK_succ (map_at (f := fun j => befJ j k) hc)
          have has := minK_succ (map_at (f := fun j => aftJ j k) hc)
          have hss := sumK_succ (map_at (f := fun j => at0 j.2.1 k) hc)
          dsimp only at hxs hbs has hss
          have hal := allJ_eq hjo HKN.out
          have hjb := befJ_bd hjo k
          obtain ⟨At, ct, rfl⟩ := ht.form
          obtain ⟨Ad, cd, rfl⟩ := hd.form
          have kA := around_ok nm At Ad ct cd t d m k w5 (ht.below hX) (hd.below hX) hjo HKN.out
          unfold jobV at kA
          have htl : t.length = m := hjo.t
          obtain ⟨bt, ot, z, rfl, -, hbt, hz, rz⟩ := ht.cells (k := k) (by omega)
          have hza := at0_some hz
          dsimp only at hal hjb hss
          rw [hza] at hal hjb hss
          have r0 := (hX.cell (p := ⟨bJ, oJ + q * 3, none⟩) hbJ).trans j0
          have r1 := (hX.cell (p := ⟨bJ, oJ + q * 3 + 1, none⟩) hbJ).trans j1
          have r2 := (hX.cell (p := ⟨bJ, oJ + q * 3 + 2, none⟩) hbJ).trans j2
          rw [htl] at r1 j1 kA
          obtain ⟨b, hb⟩ : ∃ b, b = befJ (nm, t, d) k := ⟨_, rfl⟩
          obtain ⟨a, ha⟩ : ∃ a, a = aftJ (nm, t, d) k := ⟨_, rfl⟩
          rw [← hb, ← ha] at hal hjb kA
          rw [← hb] at hbs
          rw [← ha] at has
          rw [← hal] at hxs
          obtain ⟨x, hx⟩ : ∃ x, x = maxJ js (mostK js k) q := ⟨_, rfl⟩
          obtain ⟨y1, hy1⟩ : ∃ y, y = minK (js.map fun j => befJ j k) q := ⟨_, rfl⟩
          obtain ⟨y2, hy2⟩ : ∃ y, y = minK (js.map fun j => aftJ j k) q := ⟨_, rfl⟩
          obtain ⟨s0, hs0⟩ : ∃ y, y = sumK (js.map fun j => at0 j.2.1 k) q := ⟨_, rfl⟩
          rw [← hx] at hxs hxb
          rw [← hy1] at hbs hbb
          rw [← hy2] at has hab
          rw [← hs0] at hss hsb
          rw [← hx, ← hy1, ← hy2, ← hs0]
          obtain ⟨z1, hz1, hc1⟩ := min_cases y1 b
          obtain ⟨z2, hz2, hc2⟩ := min_cases y2 a
          obtain ⟨z3, hz3, hc3⟩ := max_cases x (b + z + a)
          have HR := Lib.hid (And.intro (hxs.trans hz3) (And.intro (hbs.trans hz1) (And.intro (has.trans hz2) hss)))
          have hi0 : (0 : Int) ≤ q := by omega
          have hi1 : (q : Int) < js.length := by omega
          have HQK := Lib.hid (show q + 1 ≤ js.length from hqn)
          have HQM := Lib.hid (show js.length - (q + 1) < js.length - q by omega)
          have HW1 := Lib.hid (wrapsV (show q < 1048576 by omega))
          have hcast : ((min q js.length : Nat) : Int) ≤ 32 := by omega
          generalize ((min q js.length : Nat) : Int) = mn at hsb hcast
          have HW2 := Lib.hid (wrapC2 (n := s0 + z) (by omega))
          have HW3 := Lib.hid (wrapC2 (n := b + z) (by omega))
          have HW4 := Lib.hid (wrapC2 (n := b + z + a) (by omega))
          have HRZ := Lib.hid rz
          have HJ1 := Lib.hid j1
          clear hmb hxb hbb hab hsb hmn hc j0 j1 j2 ht hd hjo hxs hbs has hss hal hjb htl hz hza hb ha hx hy1 hy2 hs0 hz1 hz2 hz3 hcast rz hpm
          go_wp2_with fail
          refine kA.mono ?_
          rintro e w6 ⟨rfl, hB⟩
          replace hX := hX.trans (hB.mono hX.size)
          have e1 := (hX.cell (p := ⟨bJ, oJ + q * 3 + 1, none⟩) hbJ).trans HJ1.out
          have ez := (hX.cell (p := ⟨bt, ot + k, none⟩) hbt).trans HRZ.out
          obtain ⟨wa1, wa2⟩ := HW2.out
          obtain ⟨wb1, wb2⟩ := HW3.out
          obtain ⟨wc1, wc2⟩ := HW4.out
          obtain ⟨wq1, wq2⟩ := HW1.out
          clear kA hB r0 r1 r2
          rcases hc1 with ⟨h1, rfl⟩ | ⟨h1, rfl⟩ <;> rcases hc2 with ⟨h2, rfl⟩ | ⟨h2, rfl⟩ <;> rcases hc3 with ⟨h3, rfl⟩ | ⟨h3, rfl⟩
          all_goals (
            go_wp2_with fail
            go_roundw
            case rel => exact ⟨q + 1, HQK.out, by simp, by rw [HR.out.1], by rw [HR.out.2.2.2], by rw [HR.out.2.1], by rw [HR.out.2.2.1], hX⟩
            case measure => exact HQM.out)
        · have hf1 : sumK (js.map fun j => at0 j.2.1 k) js.length = atS js k := by
            have := sumK_all (js.map fun j => at0 j.2.1 k)
            rw [List.length_map] at this
            exact this
          have hf2 : minK (js.map fun j => befJ j k) js.length = minL (js.map fun j => befJ j k) := by
            have := minK_all (js.map fun j => befJ j k)
            rw [List.length_map] at this
            exact this
          have hf3 : minK (js.map fun j => aftJ j k) js.length = minL (js.map fun j => aftJ j k) := by
            have := minK_all (js.map fun j => aftJ j k)
            rw [List.length_map] at this
            exact this
          have hf4 : maxJ js (mostK js k) js.length = bndK js k := bnd_step hpos (fun j hj => (befJ_bd (HOK.out.ok j hj) 0).2.2.1.1) k
          rw [hf1, hf2, hf3, hf4]
          have hsu : mostK js (k + 1) = max (bndK js k) (lowS js k) := by
            unfold mostK
            rw [if_neg (by omega)]
            exact bndK_succ js k
          unfold lowS at hsu
          have hlo := lowS_bd HOK.out k
          have hats := atS_bd HOK.out k
          obtain ⟨x1, hx1⟩ : ∃ x, x = minL (js.map fun j => befJ j k) := ⟨_, rfl⟩
          obtain ⟨x2, hx2⟩ : ∃ x, x = minL (js.map fun j => aftJ j k) := ⟨_, rfl⟩
          obtain ⟨x3, hx3⟩ : ∃ x, x = atS js k := ⟨_, rfl⟩
          obtain ⟨x4, hx4⟩ : ∃ x, x = bndK js k := ⟨_, rfl⟩
          rw [← hx1, ← hx2] at hlo
          rw [← hx3] at hats
          rw [← hx1, ← hx2, ← hx3, ← hx4] at hsu
          rw [← hx1, ← hx2, ← hx3, ← hx4]
          obtain ⟨z3, hz3, hc3⟩ := max_cases x4 (x1 + x3 + x2)
          have HSU := Lib.hid (hsu.trans hz3)
          have HW2 := Lib.hid (wrapC2 (n := x1 + x3) (by omega))
          have HW3 := Lib.hid (wrapC2 (n := x1 + x3 + x2) (by omega))
          obtain ⟨wa1, wa2⟩ := HW2.out
          obtain ⟨wb1, wb2⟩ := HW3.out
          obtain ⟨wk1, wk2⟩ := HWK.out
          clear hmb hxb hbb hab hsb hmn hf1 hf2 hf3 hf4 hsu hlo hats hx1 hx2 hx3 hx4 hz3 hpm
          rcases hc3 with ⟨h3, rfl⟩ | ⟨h3, rfl⟩
          all_goals (
            go_wp2_with fail
            go_roundw
            case rel => exact ⟨k + 1, HK.out, by simp, by rw [HSU.out], hX⟩
            case measure => exact HM.out)
    · have HE : RowKit.Hid (mostK js k = bndK js k) := Lib.hid (by unfold mostK; rw [if_neg (by omega)])
      rw [HE.out]
      go_wp2_with fail
      go_ret
      exact ⟨rfl, hX⟩
end Go.Proofs
