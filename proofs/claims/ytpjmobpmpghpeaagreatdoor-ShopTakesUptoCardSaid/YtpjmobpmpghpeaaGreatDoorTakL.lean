import Derived.Test.YtpjmobpmpghpeaaGreatDoorTakP
import Derived.Test.YtpjmobpmpghpeaaGreatDoorShdAD
import Derived.Maps.OwnOps
section
/- What is taken of batches: the program. -/
namespace Go.Proofs
open Go.RowKit Go.MapKept
set_option maxHeartbeats 16000000
set_option maxRecDepth 1000000
theorem Kept1.below {b B : Nat} {W W' : World} (h : Kept1 b W W') (hb : B ≤ b) (hB : B ≤ W.heap.size) : Below B W W' := ⟨h.os, h.tape, h.output, h.size, fun k hk => h.block k (by omega) (by omega)⟩
theorem batF_block {w : World} {b o n cap : Nat} {l : List BatT} (h : SlF encB w (.slice (some ⟨b, o, none⟩) n cap) l) (h0 : 0 < l.length) : b < w.heap.size := by
  obtain ⟨b', o', e, -, h3, -⟩ := bat_cells h (List.getElem?_eq_getElem h0)
  injection e with e
  injection e with e1 e2
  rw [e1]; exact h3
theorem ordered_ok (v : Value) (l : List BatT) (w : World) (hl : SlF encB w v l) (hn : l.length ≤ 12) :
    Calls Tryz.prog 105 #[v, .func (.func 106) #[] #[]] w fun e w' => ∃ Og p, e = .returned (.slice (some ⟨Og, 0, none⟩) l.length l.length) ∧ OrderS (l.map (·.2.2.2)) p ∧ RowN w' Og p ∧ w.heap.size ≤ Og ∧ Below w.heap.size w w' := by
  obtain ⟨j0, hj, hy0, hy1, hy2⟩ := info_parts (P := Tryz.prog) (e := 3) (z := .int .i64 0) (size := 1) (bytes := 8) (by kernel_rfl)
  obtain ⟨A, cap, rfl⟩ := hl.form
  obtain ⟨W0, hW⟩ : ∃ W0, W0 = (w.alloc (.cells #[.slice A l.length cap] 22)).alloc (.cells #[.func (.func 106) #[] #[]] 178) := ⟨_, rfl⟩
  obtain ⟨rL, rK, hB0, hz0⟩ := rows2 w _ _ _ _ W0 hW
  have hl0 := hl.below hB0
  have c0 : W0.cell? ⟨w.heap.size, 0, none⟩ = some (.slice A l.length cap) := rL.cell (by rfl)
  have HW := Lib.hid hW
  have HZ := Lib.hid hz0
  clear hW hz0
  go_enter Tryz.func105, Tryz.ntmps105
  go_wp2_with (at_make; rw [← HW.out]; refine wpList_make_full _ rfl _ _ 95 rfl W0.heap.size 3 j0 _ 1 Tryz.underlying95 hj hy0 hy1 .i64 .i64 _ _ l.length rfl rfl rfl rfl ?c1 ?c2 ?c3 ?_)
  case c1 => rw [hy2]; omega
  case c2 => unfold maxLen; omega
  case c3 => exact Nat.le_refl _
  intro w1 hown hgrow
  have hX2 : Below W0.heap.size W0 w1 := (Below.refl _ _).grown hgrow (Nat.le_refl _) (fun k hk => by cases hk)
  have hK := RowK.made hown
  have hlen := hown.1
  clear hgrow hown HW c0
  generalize (madeCells #[Value.int .i64 0] l.length).toList = Z at hK hlen
  rw [Nat.mul_one] at hlen
  generalize hOg : W0.heap.size = Og at hK hX2 HZ ⊢
  have HOg := Lib.hid hOg
  clear hOg
  go_wp2
  go_loopw [12] (fun i wr => ∃ (k : Nat) (cs : List Value), k ≤ l.length ∧ i = .int .i64 k ∧ RowK wr 3 Og cs ∧ cs.length = l.length ∧ (∀ j, j < k → cs[j]? = some (.int .i64 (j : Int))) ∧ Below Og W0 wr) (fun i _ => l.length - (intOf i).toNat)
  case atStart => exact ⟨0, Z, Nat.zero_le _, rfl, hK, hlen, fun j hj => absurd hj (Nat.not_lt_zero j), hX2⟩
  case round =>
    clear hK hlen hX2 Z
    obtain ⟨k, cs, hk, rfl, hK, hlen, hall, hBw⟩ := hrel
    rcases Nat.lt_or_eq_of_le hk with hkn | rfl
    · have hi0 : (0 : Int) ≤ k := by omega
      have hi1 : (k : Int) < l.length := by omega
      have HWK := Lib.hid (wrapsL (show k < 1048576 by omega))
      have HKK := Lib.hid (show k + 1 ≤ l.length from hkn)
      have HKM := Lib.hid (show l.length - (k + 1) < l.length - k by omega)
      obtain ⟨v0, hv0⟩ : ∃ v0, cs[k]? = some v0 := ⟨_, List.getElem?_eq_getElem (by omega)⟩
      have o0 := hK.cell hv0
      have fz := hK.fz k
      have hall2 : ∀ j, j < k + 1 → (cs.set k (.int .i64 (k : Int)))[j]? = some (.int .i64 (j : Int)) := fun j hj => by
        rcases Nat.lt_or_eq_of_le (Nat.le_of_lt_succ hj) with h1 | rfl
        · rw [List.getElem?_set_ne (by omega)]
          exact hall j h1
        · rw [List.getElem?_set_self (by omega)]
      have HR := Lib.hid (show RowK (wr.setCell ⟨Og, k, none⟩ (.int .i64 (k : Int))) 3 Og (cs.set k (.int .i64 (k : Int))) ∧ (cs.set k (.int .i64 (k : Int))).length = l.length ∧ (∀ j, j < k + 1 → (cs.set k (.int .i64 (k : Int)))[j]? = some (.int .i64 (j : Int))) ∧ Below Og W0 (wr.setCell ⟨Og, k, none⟩ (.int .i64 (k : Int))) from ⟨hK.set k _, by rw [List.length_set]; exact hlen, hall2, hBw.setCell (p := ⟨Og, k, none⟩) (Nat.le_refl _) _⟩)
      obtain ⟨wk1, wk2⟩ := HWK.out
      clear hall hall2 hK hlen hBw hl hv0
      go_wp2
      go_roundw
      case rel => exact ⟨k + 1, _, HKK.out, by simp, HR.out.1, HR.out.2.1, HR.out.2.2.1, HR.out.2.2.2⟩
      case measure => exact HKM.out
    · have hRN : RowN wr Og (List.range l.length) := by
        have e : cs = (List.range l.length).map fun i : Nat => Value.int .i64 (i : Int) := by
          apply List.ext_getElem?
          intro j
          rw [List.getElem?_map]
          by_cases hj : j < l.length
          · rw [hall j hj, List.getElem?_range hj]
            rfl
          · rw [List.getElem?_eq_none (by omega), List.getElem?_eq_none (by simp; omega)]
            rfl
        unfold RowK at hK
        unfold RowN
        rw [e] at hK
        exact hK
      have hz0 := HZ.out
      have hszr : Og ≤ wr.heap.size := by rw [← HOg.out]; exact hBw.size
      have hLc : wr.cell? ⟨w.heap.size, 0, none⟩ = some (.slice A l.length cap) := (hBw.cell (p := ⟨w.heap.size, 0, none⟩) (show w.heap.size < Og by omega)).trans (rL.cell (by rfl))
      have hKc : wr.cell? ⟨w.heap.size + 1, 0, none⟩ = some (.func (.func 106) #[] #[]) := (hBw.cell (p := ⟨w.heap.size + 1, 0, none⟩) (show w.heap.size + 1 < Og by omega)).trans (rK.cell (by rfl))
      have hBall : Below w.heap.size w wr := hB0.trans (hBw.mono (by omega))
      have hmf := shMake
      have kS : Calls Tryz.prog 137 #[.slice (some ⟨Og, 0, none⟩) l.length l.length, .func (.func 138) #[] #[.pointer (some ⟨w.heap.size + 1, 0, none⟩), .pointer (some ⟨w.heap.size, 0, none⟩)]] wr fun e w' => ∃ p, e = .returned (.tuple #[]) ∧ OrderS (l.map (·.2.2.2)) p ∧ RowN w' Og p ∧ Below w.heap.size w w' := by
        by_cases h0 : l.length = 0
        · have hl0' : l = [] := List.eq_nil_of_length_eq_zero h0
          subst hl0'
          refine (sortStableB (n := 0) (by omega) Og _ (fun w' => w' = wr) wr (insEmpty Og _ wr)).mono ?_
          rintro e w' ⟨rfl, rfl⟩
          exact ⟨[], rfl, orderS_nil, hRN, hBall⟩
        · have hlr := hl.below hBall
          obtain ⟨b, o, hA, -, -⟩ := hlr.cells encB_len (List.getElem?_eq_getElem (show 0 < l.length by omega))
          subst hA
          have hbw : b < w.heap.size := batF_block hl (by omega)
          refine (stableS_ok l Og (w.heap.size + 1) w.heap.size b o cap wr (by omega) hn hRN hKc hLc hlr (by omega) (by omega) (by omega) (by omega) (by omega)).mono ?_
          rintro e w' ⟨p, rfl, hp, hR, hKe⟩
          exact ⟨p, rfl, hp, hR, hBall.trans (hKe.below (by omega) (by omega))⟩
      clear hall hK hlen hBw hl hl0 hRN hLc hKc hB0 rL rK hBall hz0 hszr
      go_wp2_with (go_at_call 137; refine kS.mono ?_; rintro e w2 ⟨p, rfl, hp, hR, hB2⟩)
      go_ret
      exact ⟨Og, p, rfl, hp, hR, by have := HZ.out; omega, hB2⟩
theorem isFor_ok (t : BatT) (kind : ByteArray) (day : Int) (w : World) : Calls Tryz.prog 107 #[batV t, .string kind, .int .i64 day] w fun e w' => e = .returned (.bool (forB t kind day)) ∧ Below w.heap.size w w' := by
  obtain ⟨nm, kd, gr, un⟩ := t
  unfold batV forB
  dsimp only
  have hB : Below w.heap.size w (w.alloc (.cells #[.string nm, .string kd, .int .i64 gr, .int .i64 un] 73)) := (Below.refl _ _).alloc (Nat.le_refl _) _
  obtain ⟨kb, hkb⟩ : ∃ kb, (kd.toList == kind.toList) = kb := ⟨_, rfl⟩
  obtain ⟨db, hdb⟩ : ∃ db, decide (day ≤ un) = db := ⟨_, rfl⟩
  rw [hkb, hdb]
  cases kb with
  | true =>
    go_enter Tryz.func107, Tryz.ntmps107
    go_wp2
    go_ret
    exact ⟨by simp, hB⟩
  | false =>
    go_enter Tryz.func107, Tryz.ntmps107
    go_wp2
    go_ret
    exact ⟨rfl, hB⟩
end Go.Proofs
end

section
/- What is taken of batches: the program's taken and Taken. -/
namespace Go.Proofs
open Go.RowKit Go.MapKept
set_option maxHeartbeats 16000000
set_option maxRecDepth 1000000
def encK (x : TakT) : List Value := [.int .i64 (x.1 : Int), .int .i64 x.2]
theorem encK_len : ∀ t, (encK t).length = 2 := fun _ => rfl
theorem encK_one : ∀ t, ∀ u ∈ encK t, u.oneCell' = true := fun t u hu => by
  simp only [encK, List.mem_cons, List.not_mem_nil, or_false] at hu
  rcases hu with rfl | rfl <;> rfl
theorem tak_cells {w : World} {A : Option Addr} {n cap : Nat} {l : List TakT} (h : SlF encK w (.slice A n cap) l) {k : Nat} {x : TakT} (hk : l[k]? = some x) :
    ∃ b o, A = some ⟨b, o, none⟩ ∧ n = l.length ∧ b < w.heap.size ∧ w.cell? ⟨b, o + k * 2, none⟩ = some (.int .i64 (x.1 : Int)) ∧ w.cell? ⟨b, o + k * 2 + 1, none⟩ = some (.int .i64 x.2) := by
  obtain ⟨b, o, h1, h2, h3, h4⟩ := h.cells encK_len hk
  exact ⟨b, o, h1, h2, h3, h4 0 _ rfl, h4 1 _ rfl⟩
theorem gramsOf_at {l : List BatT} {i : Nat} {t : BatT} (h : l[i]? = some t) : gramsOf l i = t.2.2.1 := by unfold gramsOf; rw [h]; rfl
theorem untilOf_at {l : List BatT} {i : Nat} {t : BatT} (h : l[i]? = some t) : untilOf l i = t.2.2.2 := by unfold untilOf; rw [h]; rfl
theorem avail_at {l : List BatT} {i : Nat} {t : BatT} (h : l[i]? = some t) (kind : ByteArray) (day : Int) : avail l kind day i = forB t kind day := by unfold avail; rw [h]
theorem BatsOk.grams {l : List BatT} (h : BatsOk l) (i : Nat) : 0 ≤ gramsOf l i ∧ gramsOf l i ≤ 999999999 := by
  unfold gramsOf
  cases hi : l[i]? with
  | none => exact ⟨by simp, by simp⟩
  | some t => exact (h.at_ i t hi).1
theorem wrapR {n : Int} (h : -1000000000000000 ≤ n ∧ n ≤ 1000000000000000) : wrap64 n = n ∧ IntKind.i64.wrap n = n := ⟨wrap64_small (by omega), wrap_small (by omega)⟩
theorem step_len (l : List BatT) (kind : ByteArray) (day : Int) (st : List TakT × Int) (i : Nat) : (stepT l kind day st i).1.length ≤ st.1.length + 1 := by
  unfold stepT
  split <;> simp
theorem fold_len (l : List BatT) (kind : ByteArray) (day : Int) : ∀ (p : List Nat) (st : List TakT × Int), (p.foldl (stepT l kind day) st).1.length ≤ st.1.length + p.length
  | [], st => by simp
  | i :: p, st => by
    have h1 := fold_len l kind day p (stepT l kind day st i)
    have h2 := step_len l kind day st i
    simp only [List.foldl_cons, List.length_cons]
    omega
theorem run_len (l : List BatT) (kind : ByteArray) (day : Int) (p : List Nat) (g : Int) : (runT l kind day p g).1.length ≤ p.length := by
  have := fold_len l kind day p ([], g)
  simpa [runT] using this
theorem taken_ok (v : Value) (l : List BatT) (kind : ByteArray) (g0 day : Int) (w : World) (hl : SlF encB w v l) (hn : l.length ≤ 12) (hok : BatsOk l) (hg : 0 ≤ g0 ∧ g0 ≤ 999999999) :
    Calls Tryz.prog 52 #[v, .string kind, .int .i64 g0, .int .i64 day] w fun e w' => (∃ u p, e = .returned (.tuple #[u, .int .i64 (runT l kind day p g0).2]) ∧ OrderS (l.map (·.2.2.2)) p ∧ OwnF encK 2 43 w' w.heap.size u (runT l kind day p g0).1) ∧ Below w.heap.size w w' := by
  have kO := ordered_ok v l w hl hn
  obtain ⟨A, cap, rfl⟩ := hl.form
  go_enter Tryz.func52, Tryz.ntmps52
  go_wp2_with fail
  refine kO.mono ?_
  rintro e w1 ⟨Og, p, rfl, hp, hR, hge, hB1⟩
  have hplen : p.length = l.length := by have := hp.1.length_eq; simpa using this
  have hinv := TInv.all (kind := kind) (day := day) hg.1 hp (fun i => (hok.grams i).1)
  have hOl : Og < w1.heap.size := (Array.getElem?_eq_some_iff.1 hR).1
  have hl1 := hl.below hB1
  have HP := Lib.hid hp
  have HPL := Lib.hid hplen
  have HG := Lib.hid hg
  clear hp hplen kO hg hl
  go_wp2_with fail
  go_loopw [2, 10, 17] (fun gv u i wr => ∃ k : Nat, k ≤ l.length ∧ i = .int .i64 k ∧ gv = .int .i64 (runT l kind day (p.take k) g0).2 ∧ OwnF encK 2 43 wr w1.heap.size u (runT l kind day (p.take k) g0).1 ∧ Below w1.heap.size w1 wr) (fun _ _ i _ => l.length - (intOf i).toNat)
  case atStart => exact ⟨0, Nat.zero_le _, rfl, rfl, OwnF.nil _ _ _, Below.refl _ _⟩
  case round =>
    obtain ⟨k, hk, rfl, rfl, hown, hBw⟩ := hrel
    rcases Nat.lt_or_eq_of_le hk with hkn | rfl
    · obtain ⟨i, hi⟩ : ∃ i, p[k]? = some i := ⟨_, List.getElem?_eq_getElem (by rw [HPL.out]; exact hkn)⟩
      have hil : i < l.length := by
        have := HP.out.1.mem_iff.1 (List.mem_of_getElem? hi)
        simpa using this
      obtain ⟨⟨nm, kd, gr, un⟩, hc⟩ : ∃ t, l[i]? = some t := ⟨_, List.getElem?_eq_getElem hil⟩
      obtain ⟨b, o, rfl, -, hb, r0, r1, r2, r3⟩ := bat_cells (hl1.below hBw) hc
      dsimp only at r0 r1 r2 r3
      have rO : wr.cell? ⟨Og, k, none⟩ = some (.int .i64 (i : Int)) := (hBw.cell (p := ⟨Og, k, none⟩) hOl).trans (row_cell hR hi)
      have hs := runT_succ l kind day p g0 k i hi
      have hI := hinv k (by rw [HPL.out]; exact hk)
      have hgr := hok.grams i
      rw [gramsOf_at hc] at hgr
      dsimp only at hgr
      have hIs := hI.sum
      have hIn := hI.nn
      have has : availSum l kind day (p.take k) = availSum l kind day (p.take k) := rfl
      have hle : (runT l kind day (p.take k) g0).2 ≤ g0 := by
        have h1 := hI.tot
        have h2 : 0 ≤ sum2 (runT l kind day (p.take k) g0).1 := by
          unfold sum2
          have : ∀ L : List TakT, (∀ x ∈ L, 0 ≤ x.2) → 0 ≤ (L.map (·.2)).sum := fun L => by
            induction L with
            | nil => intro _; simp
            | cons x L ih =>
              intro h
              have h3 := h x (List.mem_cons_self ..)
              have h4 := ih (fun y hy => h y (List.mem_cons_of_mem _ hy))
              simp only [List.map_cons, List.sum_cons]
              omega
          exact this _ fun x hx => by have := (hI.at_ x hx).2.2.1; omega
        omega
      generalize hst : runT l kind day (p.take k) g0 = st at hown hs hIn hle
      obtain ⟨T, g⟩ := st
      dsimp only at hown hs hIn hle
      have hpt : partT l g i = min gr g := by unfold partT; rw [gramsOf_at hc]
      have hav := avail_at hc kind day
      unfold stepT at hs
      dsimp only at hs
      rw [hpt, hav] at hs
      have kF := fun W => isFor_ok (nm, kd, gr, un) kind day W
      unfold batV at kF
      dsimp only at kF
      generalize forB (nm, kd, gr, un) kind day = fb at kF hs
      have hg9 := HG.out
      have hwr := wrapR (n := g - min gr g) (by omega)
      have HWR := Lib.hid hwr
      obtain ⟨part, hpart⟩ : ∃ part, part = min gr g := ⟨_, rfl⟩
      obtain ⟨pb, hpb⟩ : ∃ pb, decide (0 < part) = pb := ⟨_, rfl⟩
      have hi0 : (0 : Int) ≤ k := by omega
      have hi1 : (k : Int) < l.length := by omega
      have hj0 : (0 : Int) ≤ i := by omega
      have hj1 : (i : Int) < l.length := by omega
      have HWK := Lib.hid (wrapsL (show k < 1048576 by omega))
      have HKK := Lib.hid (show k + 1 ≤ l.length from hkn)
      have HKM := Lib.hid (show l.length - (k + 1) < l.length - k by omega)
      rw [← hpart] at hs HWR
      have HS := Lib.hid hs
      obtain ⟨Au, cu, hu⟩ := (hown.sl encK_len).form
      subst hu
      have hTl : T.length ≤ 1048576 := by
        have h1 := run_len l kind day (p.take k) g0
        rw [hst] at h1
        dsimp only at h1
        rw [List.length_take] at h1
        omega
      have hmin : min gr g = part := hpart.symm
      clear hs hwr hI hIs hIn hle hgr hpt hav has hst hinv hpart hg9 hc hil hi
      cases pb with
      | false =>
        have hs2 : runT l kind day (p.take (k + 1)) g0 = (T, g) := by
          rw [HS.out, if_neg (fun h => absurd h.1 (of_decide_eq_false hpb))]
        have HR := Lib.hid (show (Value.int .i64 g = .int .i64 (runT l kind day (p.take (k + 1)) g0).2) ∧ OwnF encK 2 43 wr w1.heap.size (.slice Au T.length cu) (runT l kind day (p.take (k + 1)) g0).1 from by rw [hs2]; exact ⟨rfl, hown⟩)
        obtain ⟨wk1, wk2⟩ := HWK.out
        clear hs2 hown
        go_wp2
        go_roundw
        case rel => exact ⟨k + 1, HKK.out, by simp, HR.out.1, HR.out.2, hBw⟩
        case measure => exact HKM.out
      | true =>
        cases fb with
        | false =>
          have hs2 : runT l kind day (p.take (k + 1)) g0 = (T, g) := by
            rw [HS.out, if_neg (fun h => by cases h.2)]
          have HR := Lib.hid (show (Value.int .i64 g = .int .i64 (runT l kind day (p.take (k + 1)) g0).2) ∧ (runT l kind day (p.take (k + 1)) g0).1 = T from by rw [hs2]; exact ⟨rfl, rfl⟩)
          obtain ⟨wk1, wk2⟩ := HWK.out
          clear hs2
          go_wp2_with (go_at_call 107; refine (kF _).mono ?_; rintro e w2 ⟨rfl, hB2⟩)
          go_roundw
          case rel => exact ⟨k + 1, HKK.out, by simp, HR.out.1, by rw [HR.out.2]; exact hown.keep hB2, hBw.trans (hB2.mono hBw.size)⟩
          case measure => exact HKM.out
        | true =>
          have hs2 : runT l kind day (p.take (k + 1)) g0 = (T ++ [(i, part)], g - part) := by
            rw [HS.out, if_pos ⟨of_decide_eq_true hpb, rfl⟩]
          have HR := Lib.hid (show (Value.int .i64 (g - part) = .int .i64 (runT l kind day (p.take (k + 1)) g0).2) ∧ (runT l kind day (p.take (k + 1)) g0).1 = T ++ [(i, part)] from by rw [hs2]; exact ⟨rfl, rfl⟩)
          clear hs2
          go_wp2_with (first | (go_at_call 107; refine (kF _).mono ?_; rintro e w2 ⟨rfl, hB2⟩; obtain ⟨Wt, hW⟩ : ∃ Wt, Wt = w2.alloc (.cells #[.int .i64 (i : Int), .int .i64 part] 43) := ⟨_, rfl⟩; have hQt : Below w2.heap.size w2 Wt := (by subst hW; exact (Below.refl _ _).alloc (Nat.le_refl _) _); have hrowN : Wt.heap[w2.heap.size]? = some (.cells (encK (i, part)).toArray 43 (0, 0)) := (by subst hW; exact heap_alloc_new w2 _); have hownT := (hown.keep hB2).keep hQt; have hBt := (hBw.trans (hB2.mono hBw.size)).trans (hQt.mono (Nat.le_trans hBw.size hB2.size)); have hlt := hownT.lt; obtain ⟨A2, c2, w3, hap, hown2, hg2, -⟩ := run_append_one (P := Tryz.prog) Wt 29 29 43 w1.heap.size _ T (i, part) encK_len encK_one hownT w2.heap.size 1 16 (.agg #[.int .i64 0, .int .i64 0]) Tryz.underlying29 (by kernel_rfl) rfl (by decide) (by decide) (flat_row hrowN) hTl hBt.size; have hB3 := hBt.grown hg2 hBt.size (fun g e => (hlt g e).1); have HW1 := Lib.hid hW; have HAP := Lib.hid hap; have HO := Lib.hid (And.intro hown2 hB3); clear hap hW hown2 hg2 hB3 hlt hBt hownT hrowN hQt; obtain ⟨wk1, wk2⟩ := HWK.out; obtain ⟨wr1, wr2⟩ := HWR.out) | (at_builtin; rw [← HW1.out]; refine Lib.wpList_append_run _ rfl _ _ _ _ rfl _ _ rfl rfl _ _ HAP.out ?_))
          go_roundw
          case rel => exact ⟨k + 1, HKK.out, by simp, HR.out.1, by rw [HR.out.2]; exact HO.out.1, HO.out.2⟩
          case measure => exact HKM.out
    · have h1 : p.take l.length = p := by rw [← HPL.out, List.take_length]
      rw [h1] at hown
      rw [h1]
      go_wp2
      go_ret2
      exact ⟨⟨_, p, rfl, HP.out, hown.lower hB1.size⟩, hB1.trans (hBw.mono hB1.size)⟩
end Go.Proofs
end
