import Derived.Test.YtokfniicbeemdaaGreatDoorJbK
import Derived.Test.YtokfniicbeemdaaGreatDoorJbZ
section
/- Jobs: Cost of the reference. -/
namespace Go.Proofs
open Go.RowKit Go.MapKept
set_option maxHeartbeats 16000000
set_option maxRecDepth 1000000
theorem refCost_ok (js : List JobT) (r : List Int) (v vr : Value) (w : World) (hl : SlJ w v js) (hr : SlI w vr r) (G : CostG js r) :
    Calls Tryz.prog 39 #[v, vr] w fun e w' => e = .returned (.int .i64 (costK js r js.length)) ∧ Below w.heap.size w w' := by
  have hpos := G.ok.pos
  obtain ⟨Ar, cr, rfl⟩ := hr.form
  obtain ⟨bJ, oJ, cap, rfl, hbJ, hat⟩ := hl.addr hpos
  have HG := Lib.hid G
  have HAT := Lib.hid hat
  have hfew := G.ok.few
  have hB0 := Below.refl w.heap.size w
  clear hl hat G
  go_enter Tryz.func39, Tryz.ntmps39
  go_wp2_with fail
  go_loopw [5, 6] (fun c i wr => ∃ k : Nat, k ≤ js.length ∧ i = .int .i64 k ∧ c = .int .i64 (costK js r k) ∧ Below w.heap.size w wr) (fun _ i _ => js.length - (intOf i).toNat)
  case atStart => exact ⟨0, Nat.zero_le _, rfl, rfl, hB0⟩
  case round =>
    clear hB0
    obtain ⟨k, hk, rfl, rfl, hX⟩ := hrel
    rename World => w3
    have hcb := costK_bd HG.out.ok HG.out.rb HG.out.few k hk
    rcases Nat.lt_or_eq_of_le hk with hkn | rfl
    · obtain ⟨⟨s, tl, dl⟩, hc⟩ : ∃ j, js[k]? = some j := ⟨_, List.getElem?_eq_getElem hkn⟩
      obtain ⟨vt, vd, j0, j1, j2, ht, hd⟩ := HAT.out k _ hc
      have hjo := HG.out.ok.ok _ (List.mem_of_getElem? hc)
      have hsu := costK_succ (r := r) hc
      dsimp only at j0 j1 j2 ht hd hsu
      obtain ⟨At, ct, rfl⟩ := ht.form
      have hi0 : (0 : Int) ≤ k := by omega
      have hi1 : (k : Int) < js.length := by omega
      have hlr : tl.length = r.length := by have h1 := hjo.t; have h2 := HG.out.m; dsimp only at h1; omega
      have HLR := Lib.hid hlr
      have HTB := Lib.hid hjo.tb
      have HXA := Lib.hid hX
      have HSU := Lib.hid hsu
      have HCB := Lib.hid hcb
      have HK := Lib.hid (show k + 1 ≤ js.length from hkn)
      have HM := Lib.hid (show js.length - (k + 1) < js.length - k by omega)
      have HWK := Lib.hid (wrapsV (show k < 1048576 by omega))
      have HJ1 := Lib.hid j1
      clear hc j0 j1 j2 hjo hsu hcb hlr hX
      go_wp2_with fail
      generalize costK js r k = C at HSU HCB ⊢
      go_loopw [5, 7] (fun c i wr => ∃ q : Nat, q ≤ r.length ∧ i = .int .i64 q ∧ c = .int .i64 (C + dotK tl r q) ∧ Below w.heap.size w wr) (fun _ i _ => r.length - (intOf i).toNat)
      case atStart => exact ⟨0, Nat.zero_le _, rfl, by simp [dotK], HXA.out⟩
      case round =>
        clear HXA
        obtain ⟨q, hq, rfl, rfl, hX⟩ := hrel
        rename World => w4
        have hdb := dotK_bd HTB.out HG.out.rb q
        rcases Nat.lt_or_eq_of_le hq with hqn | rfl
        · obtain ⟨bt, ot, y, rfl, -, hbl, hy, rk⟩ := (ht.below hX).cells (k := q) (by rw [HLR.out]; exact hqn)
          obtain ⟨br, orr, z, rfl, -, hbl2, hz, rk2⟩ := (hr.below hX).cells hqn
          have r1 := (hX.cell (p := ⟨bJ, oJ + k * 3 + 1, none⟩) hbJ).trans HJ1.out
          have hpb := prod_bd (HTB.out y (List.mem_of_getElem? hy)) (HG.out.rb z (List.mem_of_getElem? hz))
          have hst : C + dotK tl r (q + 1) = C + dotK tl r q + y * z := by
            rw [dotK, at0_some hy, at0_some hz]
            omega
          have hj0 : (0 : Int) ≤ q := by omega
          have hj1 : (q : Int) < r.length := by omega
          have hj2 : (q : Int) < tl.length := by have := HLR.out; omega
          have h8 := HG.out.few
          have hq8 : q ≤ 8 := by omega
          have HST := Lib.hid hst
          generalize hD : C + dotK tl r q = D at HST ⊢
          have hDb : 0 ≤ D ∧ D ≤ 900000000000000 := by have := HCB.out; omega
          generalize hP : y * z = p at HST hpb
          have HW1 := Lib.hid (wrapC (n := p) (by omega))
          have HW2 := Lib.hid (wrapC (n := D + p) (by omega))
          have HQK := Lib.hid (show q + 1 ≤ r.length from hqn)
          have HQM := Lib.hid (show r.length - (q + 1) < r.length - q by omega)
          have HW3 := Lib.hid (wrapsV (show q < 1048576 by omega))
          have HBX := Lib.hid (below_drewN hX)
          clear hdb hst hy hz hpb hDb h8 hq8 hX hD
          obtain ⟨w1a, w1b⟩ := HW1.out
          obtain ⟨w2a, w2b⟩ := HW2.out
          obtain ⟨w3a, w3b⟩ := HW3.out
          go_wp2_with fail
          go_quiet (fail)
          go_wp2_with fail
          go_roundw
          case rel => exact ⟨q + 1, HQK.out, by simp, by rw [HST.out], HBX.out _⟩
          case measure => exact HQM.out
        · obtain ⟨wk1, wk2⟩ := HWK.out
          have HBX := Lib.hid hX
          clear hX hdb
          go_wp2_with fail
          go_roundw
          case rel => exact ⟨k + 1, HK.out, by simp, by rw [HSU.out], HBX.out⟩
          case measure => exact HM.out
    · obtain ⟨C, hCe⟩ : ∃ C, C = costK js r js.length := ⟨_, rfl⟩
      rw [← hCe]
      have HCE := Lib.hid hCe
      clear hCe hcb
      go_wp2_with fail
      go_ret
      refine ⟨?_, hX⟩
      rw [← HCE.out]
      rfl
end Go.Proofs
end

section
/- Laws of the jobs: the first of some errors, an error if a condition holds, a number with an error; an error of jobs there is. -/
namespace Go.Proofs
open Go.RowKit Go.MapKept
set_option maxHeartbeats 16000000
set_option maxRecDepth 1000000
theorem scanJ_ex {α : Type} (l : List α) (E : Nat → α → Int) : ∀ k, PreE l E k ∨ ∃ e, ScanE l E e
  | 0 => .inl fun j s h => absurd h (Nat.not_lt_zero j)
  | k + 1 => by
    rcases scanJ_ex l E k with h | h
    · cases hk : l[k]? with
      | none =>
        refine .inl fun j s hj hs => ?_
        rcases Nat.lt_or_eq_of_le (Nat.le_of_lt_succ hj) with h2 | rfl
        · exact h j s h2 hs
        · rw [hk] at hs; cases hs
      | some t =>
        by_cases he : E k t = 0
        · refine .inl fun j s hj hs => ?_
          rcases Nat.lt_or_eq_of_le (Nat.le_of_lt_succ hj) with h2 | rfl
          · exact h j s h2 hs
          · obtain rfl := Option.some.inj (hk.symm.trans hs)
            exact he
        · exact .inr ⟨_, h.bad hk he⟩
    · exact .inr h
theorem jobX_ex (js : List JobT) : ∃ n, JobX js n := by
  by_cases h0 : js.length = 0
  · exact ⟨12, .inl ⟨h0, rfl⟩⟩
  · by_cases h1 : 32 < js.length
    · exact ⟨5, .inr ⟨by omega, .inl ⟨h1, rfl⟩⟩⟩
    · rcases scanJ_ex js (jobE js) js.length with h | ⟨e, h⟩
      · exact ⟨0, .inr ⟨by omega, .inr ⟨by omega, h.done (Nat.le_refl _)⟩⟩⟩
      · exact ⟨e, .inr ⟨by omega, .inr ⟨by omega, h⟩⟩⟩
theorem StartsX.zero {js : List JobT} {S : List (List Int)} {c e : Int} (h : StartsX js S c e) (he : e ≠ 0) : c = 0 := by
  rcases h with ⟨-, h, -⟩ | ⟨-, ⟨-, h, -⟩ | ⟨-, ⟨-, h, -⟩ | ⟨-, -, h⟩⟩⟩
  · exact h
  · exact h
  · exact h
  · exact absurd h he
theorem shStartsA_ok (js : List JobT) (v vs : Value) (n : Int) (w : World) (hl : SlJ w v js) (hs : ∀ j ∈ js, j.2.1.length ≤ 1000 ∧ j.2.2.length ≤ 1000) (hx : JobX js n) (hn : n ≠ 0) :
    Calls Tryz.prog 35 #[v, vs] w fun e w' => e = .returned (.tuple #[.int .i64 0, .int .i64 n]) ∧ Below w.heap.size w w' := by
  have k1 := shJobN_ok js v n w hl hs hx
  have hnz : (n != 0) = true := by simpa using hn
  clear hl hs hx hn
  go_enter Tryz.func35, Tryz.ntmps35
  go_wp2_with (go_at_call 33; refine k1.mono ?_; rintro e w1 ⟨rfl, hB⟩)
  go_ret2
  exact ⟨rfl, hB⟩
theorem lawWhenJ_ok (b : Bool) (n : Int) (w : World) : Calls Tryz.prog 16 #[.bool b, .int .i64 n] w fun e w' => e = .returned (.int .i64 (if b then n else 0)) ∧ w' = w := by
  cases b
  · go_enter Tryz.func16, Tryz.ntmps16
    go_wp2
    go_ret
    exact ⟨rfl, rfl⟩
  · go_enter Tryz.func16, Tryz.ntmps16
    go_wp2
    go_ret
    exact ⟨rfl, rfl⟩
theorem lawIntJ_ok (a e b : Int) (h0 : e = 0 → a = b) (h1 : e ≠ 0 → a = 0) (w : World) : Calls Tryz.prog 21 #[.int .i64 a, .int .i64 e, .int .i64 b, .int .i64 e] w fun x w' => x = .returned (.bool true) ∧ w' = w := by
  by_cases he : e = 0
  · obtain rfl := h0 he
    subst he
    clear h0 h1
    go_enter Tryz.func21, Tryz.ntmps21
    go_wp2
    all_goals (go_ret; exact ⟨rfl, rfl⟩)
  · obtain rfl := h1 he
    clear h0 h1
    have h1 : (e == 0) = false := by simpa using he
    have h2 : (e != 0) = true := by simpa using he
    clear he
    go_enter Tryz.func21, Tryz.ntmps21
    go_wp2
    all_goals (go_ret; exact ⟨rfl, rfl⟩)
theorem lawFirst2J (a b : Int) (blk cap : Nat) (w : World) (h0 : w.cell? ⟨blk, 0, none⟩ = some (.int .i64 a)) (h1 : w.cell? ⟨blk, 1, none⟩ = some (.int .i64 b)) :
    Calls Tryz.prog 15 #[.slice (some ⟨blk, 0, none⟩) 2 cap] w fun e w' => e = .returned (.int .i64 (or3 a b 0)) ∧ w' = w := by
  go_enter Tryz.func15, Tryz.ntmps15
  go_wp2
  refine wp_loop_rounds 3 ?_
  rw [rounds_succ]
  go_wp2
  all_goals (try (rw [rounds_succ]; go_wp2))
  all_goals (try (rw [rounds_succ]; go_wp2))
  all_goals go_ret
  all_goals (refine ⟨?_, rfl⟩; unfold or3; simp_all)
end Go.Proofs
end
