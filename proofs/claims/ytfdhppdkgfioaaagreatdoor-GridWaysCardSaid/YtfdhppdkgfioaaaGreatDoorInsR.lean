/- The reference's Sorted, for any list. -/
import Derived.Test.YtfdhppdkgfioaaaGreatDoorInsP
namespace Go.Proofs
open Go.RowKit
set_option maxHeartbeats 8000000
set_option maxRecDepth 1000000
theorem take_mem {l : List Cel} {k : Nat} {c : Cel} (hc : l[k]? = some c) (x : Cel) : x ∈ l.take (k + 1) ↔ x = c ∨ x ∈ l.take k := by
  obtain ⟨h1, h2⟩ := List.getElem?_eq_some_iff.1 hc
  rw [List.take_succ_eq_append_getElem h1, h2, List.mem_append, List.mem_singleton]
  exact Or.comm
theorem own_cells {w : World} {B n cap : Nat} {A : Option Addr} {out : List Cel} (h : Own w B (.slice A n cap) out) {i : Nat} {c : Cel} (hi : out[i]? = some c) :
    ∃ g, A = some ⟨g, 0, none⟩ ∧ B ≤ g ∧ g < w.heap.size ∧ n = out.length ∧ w.cell? ⟨g, i * 3, none⟩ = some (.int .i64 c.1) ∧ w.cell? ⟨g, i * 3 + 1, none⟩ = some (.int .i64 c.2.1) ∧ w.cell? ⟨g, i * 3 + 2, none⟩ = some (.int .i64 c.2.2) := by
  rcases h.form with ⟨_, h2⟩ | ⟨g, cap', h1, h2, h3, h4⟩
  · subst h2
    simp at hi
  · injection h1 with h5 h6 h7
    obtain ⟨r0, r1, r2⟩ := h4 i c hi
    simp only [Nat.zero_add] at r0 r1 r2
    exact ⟨g, h5, h2, h3, h6, r0, r1, r2⟩
theorem own_app {w : World} {B : Nat} {v : Value} {out : List Cel} {c : Cel} (h : w.ownsRow B 24 3 v (out.length + 1) (flatC out ++ encC c)) :
    ∃ g cap, v = .slice (some ⟨g, 0, none⟩) (out.length + 1) cap ∧ B ≤ g ∧ g < w.heap.size ∧ Own w B (.slice (some ⟨g, 0, none⟩) (out.length + 1) cap) (out.take out.length ++ c :: out.drop out.length) := by
  have e : out.take out.length ++ c :: out.drop out.length = out ++ [c] := by simp
  rw [e]
  have ho : Own w B v (out ++ [c]) := by
    unfold Own
    rw [flatC_snoc, List.length_append]
    exact h
  rcases ho.form with ⟨_, h2⟩ | ⟨g, cap, rfl, h2, h3, _⟩
  · simp at h2
  · have e2 : (out ++ [c]).length = out.length + 1 := by simp
    rw [e2] at ho ⊢
    exact ⟨g, cap, rfl, h2, h3, ho⟩
theorem own_old {w : World} {B g n cap : Nat} {out : List Cel} (h : Own w B (.slice (some ⟨g, 0, none⟩) n cap) out) {i : Nat} (hi : i < out.length) :
    (∃ u, w.cell? ⟨g, i * 3, none⟩ = some u) ∧ (∃ u, w.cell? ⟨g, i * 3 + 1, none⟩ = some u) ∧ (∃ u, w.cell? ⟨g, i * 3 + 2, none⟩ = some u) := by
  obtain ⟨g', e, _, _, _, h0, h1, h2⟩ := own_cells h (List.getElem?_eq_getElem hi)
  injection e with e
  injection e with e
  subst e
  exact ⟨⟨_, h0⟩, ⟨_, h1⟩, ⟨_, h2⟩⟩
theorem own_fz {w : World} {B g n cap : Nat} {out : List Cel} (h : Own w B (.slice (some ⟨g, 0, none⟩) n cap) out) (i : Nat) : w.frozen? ⟨g, i, none⟩ = false := by
  rcases h.2 with ⟨h1, _⟩ | ⟨g', cap', cur, h1, _, hg, _⟩
  · cases h1
  · injection h1 with h5
    injection h5 with h5
    injection h5 with h5
    subst h5
    exact frozen_of_row w g i cur _ hg
theorem refSorted_ok (l : List Cel) (v : Value) (w : World) (hl : Sl w v l) (hn : l.length ≤ 1000000) :
    Calls Tryz.prog 117 #[v] w fun e w' => ∃ v' out, e = .returned v' ∧ Own w' w.heap.size v' out ∧ Up out ∧ (∀ c, c ∈ out ↔ c ∈ l) ∧ Below w.heap.size w w' := by
  rcases hl with ⟨rfl, rfl⟩ | ⟨a, acap, rfl, hl⟩
  · go_enter Tryz.func117, Tryz.ntmps117
    go_wp2
    go_loopw [3, 4] (fun s i wr => s = .slice none 0 0 ∧ i = .int .i64 0 ∧ wr = w) (fun _ i _ => 0)
    case atStart => exact ⟨rfl, rfl, rfl⟩
    case round =>
      obtain ⟨rfl, rfl, rfl⟩ := hrel
      go_wp2
      go_ret
      exact ⟨_, [], rfl, Own.nil _ _, List.Pairwise.nil, fun _ => Iff.rfl, Below.refl _ _⟩
  · obtain ⟨j0, hj, hy0, hy1, hy2⟩ := info_parts (P := Tryz.prog) (e := 24) (z := .agg #[.int .i64 0, .int .i64 0, .int .i64 0]) (size := 3) (bytes := 24) (by kernel_rfl)
    go_enter Tryz.func117, Tryz.ntmps117
    go_wp2
    go_loopw [3, 4] (fun s i wr => ∃ (k : Nat) (A : Option Addr) (cap : Nat) (out : List Cel), k ≤ l.length ∧ i = .int .i64 k ∧ s = .slice A out.length cap ∧ Own wr w.heap.size (.slice A out.length cap) out ∧ Up out ∧ (∀ c, c ∈ out ↔ c ∈ l.take k) ∧ Below w.heap.size w wr) (fun _ i _ => l.length - (intOf i).toNat)
    case atStart => exact ⟨0, none, 0, [], Nat.zero_le _, rfl, rfl, Own.nil _ _, List.Pairwise.nil, fun _ => by simp, Below.refl _ _⟩
    case round =>
      obtain ⟨k, A, cap, out, hk, rfl, rfl, hown, hup, hmem, hBel⟩ := hrel
      rename World => w1
      rcases Nat.lt_or_eq_of_le hk with hkn | rfl
      · obtain ⟨b, o, x, y, z, rfl, hb, hc, r0, r1, r2⟩ := Sl.at_ hl hkn
        have hle : out.length ≤ k := Nat.le_trans (up_len_le hup fun x hx => (hmem x).1 hx) (List.length_take_le _ _)
        clear hl
        go_wp2_with fail
        go_loopw [5] (fun t w2 => ∃ j : Nat, j ≤ out.length ∧ t = .int .i64 j ∧ Below w1.heap.size w1 w2 ∧ ∀ i p, j ≤ i → out[i]? = some p → ltC (x, y, z) p = true) (fun t _ => (intOf t).toNat)
        case atStart => exact ⟨out.length, Nat.le_refl _, rfl, Below.refl _ _, fun i p hi hp => absurd (List.getElem?_eq_some_iff.1 hp).1 (by omega)⟩
        case round =>
          obtain ⟨j, hjl, rfl, hB2, hhi⟩ := hrel
          rename World => w2
          have hown2 := hown.keep hB2
          have hBel2 := hBel.trans (hB2.mono hBel.size)
          have R0 := hBel2.cell (p := ⟨b, o + k * 3, none⟩) hb
          rw [r0] at R0
          have R1 := hBel2.cell (p := ⟨b, o + k * 3 + 1, none⟩) hb
          rw [r1] at R1
          have R2 := hBel2.cell (p := ⟨b, o + k * 3 + 2, none⟩) hb
          rw [r2] at R2
          have S0 := r0
          have S1 := r1
          have S2 := r2
          clear r0 r1 r2 hown hBel
          have hk0 : 0 ≤ (k : Int) := by omega
          have hk1 : (k : Int) < l.length := by omega
          rcases Nat.eq_zero_or_pos j with hj0 | hpos
          · have hd : decide ((0 : Int) < (j : Int)) = false := by simp; omega
            have hlo : ∀ i p, i < j → out[i]? = some p → ltC p (x, y, z) = true := fun i p hi => absurd hi (by omega)
            go_upto_region 6 with fail
            go_quiet (fail)
            rename Nat => q1
            go_upto_region 8 with fail
            go_quiet (fail)
            rename Nat => q2
            go_upto_region 9 with fail
            have hB3 : Below w2.heap.size w2 ((w2.drewN q1).drewN q2) := ⟨rfl, rfl, rfl, Nat.le_refl _, fun _ _ => rfl⟩
            generalize (w2.drewN q1).drewN q2 = w3 at hB3 ⊢
            clear hd hj0
            have hownT := hown2.keep hB3
            have hBelT := hBel2.trans (hB3.mono hBel2.size)
            clear R0 R1 R2 hown2 hBel2 hB2 hB3
            rename World => wT
            have TR0 := hBelT.cell (p := ⟨b, o + k * 3, none⟩) hb
            rw [S0] at TR0
            have TR1 := hBelT.cell (p := ⟨b, o + k * 3 + 1, none⟩) hb
            rw [S1] at TR1
            have TR2 := hBelT.cell (p := ⟨b, o + k * 3 + 2, none⟩) hb
            rw [S2] at TR2
            go_upto_region 10 with (at_builtin; refine wpList_append_own _ rfl _ _ 22 rfl w.heap.size 24 j0 _ 3 24 Tryz.underlying22 hj hy0 hy1 hy2 rfl (by decide) _ out.length (flatC out) rfl (World.ownsRow.alloc hownT _) ⟨wT.heap.size, 0, none⟩ 1 1 (encC (x, y, z)) rfl rfl ?cA1 ?cB1 ?cC1 ?cD1 ?cE1 ?_)
            case cA1 =>
              intro j u hu
              match j, hu with
              | 0, hu => simp [encC] at hu; subst hu; go_simp
              | 1, hu => simp [encC] at hu; subst hu; go_simp
              | 2, hu => simp [encC] at hu; subst hu; go_simp
            case cB1 => intro u hu; simp [encC] at hu; rcases hu with rfl | rfl | rfl <;> rfl
            case cC1 => unfold maxLen; omega
            case cD1 => omega
            case cE1 => simp; have := hBelT.size; omega
            intro v6 w6 hown6 hg6 _
            have hB6 := (hBelT.alloc hBelT.size _).grown hg6 (by have := hBelT.size; simp; omega) (fun k hk => (hownT.lt k hk).1)
            obtain ⟨g6, cap6, rfl, hg6B, hg6w, hown6'⟩ := own_app hown6
            clear hown6 hg6 hownT TR0 TR1 TR2 hBelT
            have hw10 : IntKind.i64.wrap ((out.length : Int) + 1 - 1) = out.length := by rw [show ((out.length : Int) + 1 - 1) = out.length by omega]; exact wrapS (by omega)
            go_wp2_with fail
            clear hw10
            go_loopw [6] (fun t w7 => ∃ (m : Nat) (q : Cel), j ≤ m ∧ m ≤ out.length ∧ t = .int .i64 m ∧ Own w7 w.heap.size (.slice (some ⟨g6, 0, none⟩) (out.length + 1) cap6) (out.take m ++ q :: out.drop m) ∧ Below w.heap.size w w7) (fun t _ => (intOf t).toNat)
            case atStart => exact ⟨out.length, (x, y, z), hjl, Nat.le_refl _, rfl, hown6', hB6⟩
            case round =>
              obtain ⟨m, q, hjm, hml, rfl, hown7, hB7⟩ := hrel
              rename World => w7
              have hln := len_insert (c := q) hml
              obtain ⟨⟨o0, O0⟩, ⟨o1, O1⟩, ⟨o2, O2⟩⟩ := own_old hown7 (i := m) (by rw [hln]; omega)
              have fz := own_fz hown7
              have hst := fun a b c => hown7.store (k := m) hln.symm (by omega) a b c
              have hsz := hB7.size
              clear hown6' hB6
              rcases Nat.lt_or_eq_of_le hjm with hjm | rfl
              · obtain ⟨yx, yy, yz, hy⟩ : ∃ a b c, out[m-1]? = some (a, b, c) := ⟨_, _, _, List.getElem?_eq_getElem (by omega)⟩
                have hy' : (out.take m ++ q :: out.drop m)[m-1]? = some (yx, yy, yz) := by rw [ins_get (by omega) hml]; exact hy
                obtain ⟨g7, e7, -, -, -, Q0, Q1, Q2⟩ := own_cells hown7 hy'
                obtain rfl : g7 = g6 := by injection e7 with e7; injection e7 with e7; exact e7.symm
                dsimp only at Q0 Q1 Q2
                have hst' := hst yx yy yz
                rw [ins_set _ hml, ins_down (by omega) hy] at hst'
                have hgt : (j : Int) < m := by omega
                have hm1 : 1 ≤ (m : Int) := by omega
                have hm2 : (m : Int) - 1 < (out.length : Int) + 1 := by omega
                have hm2' : (m : Int) - 1 < out.length := by omega
                have hm3 : (m : Int) < (out.length : Int) + 1 := by omega
                have hm4 : ((m : Int) - 1).toNat = m - 1 := by omega
                have hm5 : IntKind.i64.wrap ((m : Int) - 1) = (m : Int) - 1 := wrapS (by omega)
                have hm6 : m < out.length + 1 := by omega
                have hm7 : m - 1 < out.length + 1 := by omega
                clear e7 hy' hst hown7 hln
                go_wp2
                exact ⟨⟨m - 1, _, by omega, by omega, by rw [show ((m : Int) - 1) = ((m - 1 : Nat) : Int) by omega], hst', ((hB7.setCell (p := ⟨g7, m * 3, none⟩) hg6B _).setCell (p := ⟨g7, m * 3 + 1, none⟩) hg6B _).setCell (p := ⟨g7, m * 3 + 2, none⟩) hg6B _⟩, by simp [intOf]; omega⟩
              · have hst' := hst x y z
                rw [ins_set _ hml] at hst'
                have TR0 := hB7.cell (p := ⟨b, o + k * 3, none⟩) hb
                rw [S0] at TR0
                have TR1 := hB7.cell (p := ⟨b, o + k * 3 + 1, none⟩) hb
                rw [S1] at TR1
                have TR2 := hB7.cell (p := ⟨b, o + k * 3 + 2, none⟩) hb
                rw [S2] at TR2
                have hm3 : (j : Int) < (out.length : Int) + 1 := by omega
                have hm6 : j < out.length + 1 := by omega
                clear hst hown7 hln S0 S1 S2
                go_wp2
                refine ⟨⟨k + 1, some ⟨g6, 0, none⟩, cap6, out.take j ++ (x, y, z) :: out.drop j, hkn, rfl, by rw [len_insert hml], ?_, up_insert hup hlo hhi, fun c => ?_, ((hB7.setCell (p := ⟨g6, j * 3, none⟩) hg6B _).setCell (p := ⟨g6, j * 3 + 1, none⟩) hg6B _).setCell (p := ⟨g6, j * 3 + 2, none⟩) hg6B _⟩, by simp [intOf]; omega⟩
                · rw [len_insert hml]
                  exact hst'
                · rw [mem_insert, take_mem hc, hmem]
          · obtain ⟨px, py, pz, hp⟩ : ∃ px py pz, out[j-1]? = some (px, py, pz) := ⟨_, _, _, List.getElem?_eq_getElem (by omega)⟩
            obtain ⟨g, rfl, hgB, hgw, -, Q0, Q1, Q2⟩ := own_cells hown2 hp
            dsimp only at Q0 Q1 Q2
            have hkk : (j - 1) * 3 + 3 = j * 3 := by omega
            have hw' : IntKind.i64.wrap ((j : Int) - 1) = (j : Int) - 1 := wrapS (by omega)
            have hi0 : 1 ≤ (j : Int) := by omega
            have hi1 : (j : Int) - 1 < out.length := by omega
            have hit : ((j : Int) - 1).toNat = j - 1 := by omega
            have hd : decide ((0 : Int) < (j : Int)) = true := by simp; omega
            have hcm := fun W => before_okL x y z px py pz W
            go_upto_region 6 with fail
            go_still_tail 12, (by kernel_rfl)
            change wpList _ _ _ _ _ w2.drew
            have hB3 : Below w2.heap.size w2 w2.drew := ⟨rfl, rfl, rfl, Nat.le_refl _, fun _ _ => rfl⟩
            clear R0 R1 R2 Q0 Q1 Q2 hi0 hi1 hit hd
            generalize w2.drew = w3 at hB3 ⊢
            cases hlt : ltC (x, y, z) (px, py, pz) with
            | true =>
              rw [hlt] at hcm
              go_wp2_with (go_at_call 56; refine (hcm _).mono ?_; rintro e w4 ⟨rfl, hB4⟩)
              refine ⟨⟨j - 1, by omega, by rw [show ((j : Int) - 1) = ((j - 1 : Nat) : Int) by omega], hB2.trans ((hB3.trans (hB4.mono hB3.size)).mono hB2.size), fun i p hi hp' => ?_⟩, by simp [intOf]; omega⟩
              rcases Nat.lt_or_ge i j with h | h
              · obtain rfl : i = j - 1 := by omega
                rw [hp] at hp'
                obtain rfl := Option.some.inj hp'
                exact hlt
              · exact hhi i p h hp'
            | false =>
              rw [hlt] at hcm
              go_upto_region 8 with (go_at_call 56; refine (hcm _).mono ?_; rintro e w4 ⟨rfl, hB4⟩)
              have hB24 := hB3.trans (hB4.mono hB3.size)
              have hBel4 := hBel2.trans (hB24.mono hBel2.size)
              have hown4 := hown2.keep hB24
              obtain ⟨g', e', -, -, -, Q0, Q1, Q2⟩ := own_cells hown4 hp
              obtain rfl : g' = g := by injection e' with e'; injection e' with e'; exact e'.symm
              dsimp only at Q0 Q1 Q2
              have R0 := hBel4.cell (p := ⟨b, o + k * 3, none⟩) hb
              rw [S0] at R0
              have R1 := hBel4.cell (p := ⟨b, o + k * 3 + 1, none⟩) hb
              rw [S1] at R1
              have R2 := hBel4.cell (p := ⟨b, o + k * 3 + 2, none⟩) hb
              rw [S2] at R2
              have heq := fun W => eqCell px py pz x y z W
              have hi0 : 1 ≤ (j : Int) := by omega
              have hi1 : (j : Int) - 1 < out.length := by omega
              have hit : ((j : Int) - 1).toNat = j - 1 := by omega
              have hd : decide ((0 : Int) < (j : Int)) = true := by simp; omega
              clear hB3 hB4 hcm e'
              by_cases he : (px, py, pz) = (x, y, z)
              · obtain ⟨rfl, rfl, rfl⟩ : px = x ∧ py = y ∧ pz = z := by simpa using he
                have hbq : (px == px && (py == py && pz == pz)) = true := by simp
                rw [hbq] at heq
                clear hbq he
                go_quiet (fail)
                rename Nat => q1
                go_wp2
                exact ⟨⟨k + 1, _, cap, out, hkn, rfl, rfl, hown4, hup, fun c => (hmem c).trans (by
                  rw [take_mem hc]
                  exact ⟨.inr, fun h => h.elim (fun e => by subst e; exact (hmem _).1 (List.mem_of_getElem? hp)) id⟩), ⟨hBel4.os, hBel4.tape, hBel4.output, hBel4.size, hBel4.block⟩⟩, by simp [intOf]; omega⟩
              · have hbq : (px == x && (py == y && pz == z)) = false := by
                  simp only [Bool.and_eq_false_iff, beq_eq_false_iff_ne, ne_eq]
                  simp only [Prod.mk.injEq] at he
                  omega
                rw [hbq] at heq
                have hlo : ∀ i p, i < j → out[i]? = some p → ltC p (x, y, z) = true := fun i p hi hp' => by
                  have hpc : ltC (px, py, pz) (x, y, z) = true := by
                    cases h : ltC (px, py, pz) (x, y, z) with
                    | true => rfl
                    | false => exact absurd (antiC _ _ h hlt) he
                  rcases Nat.lt_or_eq_of_le (Nat.le_sub_one_of_lt hi) with h | h
                  · exact ltC_tr (up_get hup hp' hp h) hpc
                  · subst h
                    rw [hp] at hp'
                    obtain rfl := Option.some.inj hp'
                    exact hpc
                have hlo' := hlo
                clear hbq he hlo
                go_quiet (fail)
                rename Nat => q1
                go_upto_region 9 with fail
                have hlo := hlo'
                have hownT : Own (w4.drewN q1) w.heap.size (.slice (some ⟨g', 0, none⟩) out.length cap) out := hown4
                have hBelT : Below w.heap.size w (w4.drewN q1) := ⟨hBel4.os, hBel4.tape, hBel4.output, hBel4.size, hBel4.block⟩
                clear R0 R1 R2 Q0 Q1 Q2 hown2 hBel2 hB2 hown4 hBel4 hB24 heq hi0 hi1 hit hd hlo' hw'
                generalize w4.drewN q1 = wT at hownT hBelT ⊢
                have TR0 := hBelT.cell (p := ⟨b, o + k * 3, none⟩) hb
                rw [S0] at TR0
                have TR1 := hBelT.cell (p := ⟨b, o + k * 3 + 1, none⟩) hb
                rw [S1] at TR1
                have TR2 := hBelT.cell (p := ⟨b, o + k * 3 + 2, none⟩) hb
                rw [S2] at TR2
                go_upto_region 10 with (at_builtin; refine wpList_append_own _ rfl _ _ 22 rfl w.heap.size 24 j0 _ 3 24 Tryz.underlying22 hj hy0 hy1 hy2 rfl (by decide) _ out.length (flatC out) rfl (World.ownsRow.alloc hownT _) ⟨wT.heap.size, 0, none⟩ 1 1 (encC (x, y, z)) rfl rfl ?cA2 ?cB2 ?cC2 ?cD2 ?cE2 ?_)
                case cA2 =>
                  intro j u hu
                  match j, hu with
                  | 0, hu => simp [encC] at hu; subst hu; go_simp
                  | 1, hu => simp [encC] at hu; subst hu; go_simp
                  | 2, hu => simp [encC] at hu; subst hu; go_simp
                case cB2 => intro u hu; simp [encC] at hu; rcases hu with rfl | rfl | rfl <;> rfl
                case cC2 => unfold maxLen; omega
                case cD2 => omega
                case cE2 => simp; have := hBelT.size; omega
                intro v6 w6 hown6 hg6 _
                have hB6 := (hBelT.alloc hBelT.size _).grown hg6 (by have := hBelT.size; simp; omega) (fun k hk => (hownT.lt k hk).1)
                obtain ⟨g6, cap6, rfl, hg6B, hg6w, hown6'⟩ := own_app hown6
                clear hown6 hg6 hownT TR0 TR1 TR2 hBelT
                have hw10 : IntKind.i64.wrap ((out.length : Int) + 1 - 1) = out.length := by rw [show ((out.length : Int) + 1 - 1) = out.length by omega]; exact wrapS (by omega)
                go_wp2_with fail
                clear hw10
                go_loopw [6] (fun t w7 => ∃ (m : Nat) (q : Cel), j ≤ m ∧ m ≤ out.length ∧ t = .int .i64 m ∧ Own w7 w.heap.size (.slice (some ⟨g6, 0, none⟩) (out.length + 1) cap6) (out.take m ++ q :: out.drop m) ∧ Below w.heap.size w w7) (fun t _ => (intOf t).toNat)
                case atStart => exact ⟨out.length, (x, y, z), hjl, Nat.le_refl _, rfl, hown6', hB6⟩
                case round =>
                  obtain ⟨m, q, hjm, hml, rfl, hown7, hB7⟩ := hrel
                  rename World => w7
                  have hln := len_insert (c := q) hml
                  obtain ⟨⟨o0, O0⟩, ⟨o1, O1⟩, ⟨o2, O2⟩⟩ := own_old hown7 (i := m) (by rw [hln]; omega)
                  have fz := own_fz hown7
                  have hst := fun a b c => hown7.store (k := m) hln.symm (by omega) a b c
                  have hsz := hB7.size
                  clear hown6' hB6
                  rcases Nat.lt_or_eq_of_le hjm with hjm | rfl
                  · obtain ⟨yx, yy, yz, hy⟩ : ∃ a b c, out[m-1]? = some (a, b, c) := ⟨_, _, _, List.getElem?_eq_getElem (by omega)⟩
                    have hy' : (out.take m ++ q :: out.drop m)[m-1]? = some (yx, yy, yz) := by rw [ins_get (by omega) hml]; exact hy
                    obtain ⟨g7, e7, -, -, -, Q0, Q1, Q2⟩ := own_cells hown7 hy'
                    obtain rfl : g7 = g6 := by injection e7 with e7; injection e7 with e7; exact e7.symm
                    dsimp only at Q0 Q1 Q2
                    have hst' := hst yx yy yz
                    rw [ins_set _ hml, ins_down (by omega) hy] at hst'
                    have hgt : (j : Int) < m := by omega
                    have hm1 : 1 ≤ (m : Int) := by omega
                    have hm2 : (m : Int) - 1 < (out.length : Int) + 1 := by omega
                    have hm2' : (m : Int) - 1 < out.length := by omega
                    have hm3 : (m : Int) < (out.length : Int) + 1 := by omega
                    have hm4 : ((m : Int) - 1).toNat = m - 1 := by omega
                    have hm5 : IntKind.i64.wrap ((m : Int) - 1) = (m : Int) - 1 := wrapS (by omega)
                    have hm6 : m < out.length + 1 := by omega
                    have hm7 : m - 1 < out.length + 1 := by omega
                    clear e7 hy' hst hown7 hln
                    go_wp2
                    exact ⟨⟨m - 1, _, by omega, by omega, by rw [show ((m : Int) - 1) = ((m - 1 : Nat) : Int) by omega], hst', ((hB7.setCell (p := ⟨g7, m * 3, none⟩) hg6B _).setCell (p := ⟨g7, m * 3 + 1, none⟩) hg6B _).setCell (p := ⟨g7, m * 3 + 2, none⟩) hg6B _⟩, by simp [intOf]; omega⟩
                  · have hst' := hst x y z
                    rw [ins_set _ hml] at hst'
                    have TR0 := hB7.cell (p := ⟨b, o + k * 3, none⟩) hb
                    rw [S0] at TR0
                    have TR1 := hB7.cell (p := ⟨b, o + k * 3 + 1, none⟩) hb
                    rw [S1] at TR1
                    have TR2 := hB7.cell (p := ⟨b, o + k * 3 + 2, none⟩) hb
                    rw [S2] at TR2
                    have hm3 : (j : Int) < (out.length : Int) + 1 := by omega
                    have hm6 : j < out.length + 1 := by omega
                    clear hst hown7 hln S0 S1 S2
                    go_wp2
                    refine ⟨⟨k + 1, some ⟨g6, 0, none⟩, cap6, out.take j ++ (x, y, z) :: out.drop j, hkn, rfl, by rw [len_insert hml], ?_, up_insert hup hlo hhi, fun c => ?_, ((hB7.setCell (p := ⟨g6, j * 3, none⟩) hg6B _).setCell (p := ⟨g6, j * 3 + 1, none⟩) hg6B _).setCell (p := ⟨g6, j * 3 + 2, none⟩) hg6B _⟩, by simp [intOf]; omega⟩
                    · rw [len_insert hml]
                      exact hst'
                    · rw [mem_insert, take_mem hc, hmem]
      · rw [List.take_length] at hmem
        clear hl
        go_wp2
        go_ret
        exact ⟨_, out, rfl, hown, hup, hmem, hBel⟩
end Go.Proofs
