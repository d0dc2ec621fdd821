import Derived.Test.YtfdhppdkgfioaaaGreatDoorPartG
import Derived.Test.YtfdhppdkgfioaaaGreatDoorSetOf
import Derived.Test.YtfdhppdkgfioaaaGreatDoorPthC
import Derived.Test.YtfdhppdkgfioaaaGreatDoorSortedG
import Derived.Test.YtfdhppdkgfioaaaGreatDoorCheckG
import Derived.Lib.AppendZeros
import Derived.Test.YtfdhppdkgfioaaaGreatDoorGoodT
import Derived.Test.YtfdhppdkgfioaaaGreatDoorSl
section
/- grid.Parts. -/
namespace Go.Proofs
open Go.RowKit
set_option maxHeartbeats 16000000
set_option maxRecDepth 1000000
/-- The state after k cells. -/
structure PartsS (w : World) (B Lb b : Nat) (l : List Cel) (k : Nat) (vo : Value) (L : List Cel) (W : World) : Prop where
  left : Boxed W Lb 157 (.map (some b))
  set : CSet W b L
  nd : L.Nodup
  mem : ∀ d, d ∈ L ↔ d ∈ l ∧ d ∉ (partK NearR l k).flatten
  out : OwnLs W B vo (partK NearR l k)
  below : Below w.heap.size w W
theorem Below.keep1' {B b : Nat} {w V W : World} (h : Below B w V) (hk : Keep1 V.heap.size b V W) (hb : B ≤ b) (hB : B ≤ V.heap.size) : Below B w W :=
  h.trans ⟨hk.os, hk.tape, hk.output, hk.size, fun k hk2 => hk.block k (by omega) (by omega)⟩
theorem parts_ok (l : List Cel) (v : Value) (w : World) (hl : Sl w v l) (hn : l.length ≤ 4096) (hnear : ∀ c ∈ l, Near c 1000) (hup : Up l) :
    Calls Tryz.prog 50 #[v, .func (.func 51) #[] #[]] w fun e w' => ∃ v', e = .returned v' ∧ OwnLs w' w.heap.size v' (partK NearR l l.length) ∧ Below w.heap.size w w' := by
  obtain ⟨A, cap, rfl⟩ := hl.form
  have q := setOf_ok l _ w hl (by unfold maxLen; omega)
  go_enter Tryz.func50, Tryz.ntmps50
  go_wp2_with (go_at_call 103; refine q.mono ?_; rintro e w1 ⟨b, rfl, hb, hset, hB1⟩)
  obtain ⟨W1, hW1⟩ : ∃ W1, W1 = w1.alloc (.cells #[.map (some b)] 157) := ⟨_, rfl⟩
  have hbl : b < w1.heap.size := hset.lt
  have st0 : PartsS w (w1.heap.size + 1) w1.heap.size b l 0 (.slice none 0 0) (setL l) W1 := by
    subst hW1
    exact ⟨Boxed.new _ _ _, hset.alloc _, nodup_setL l, fun d => by rw [mem_setL]; simp [partK], OwnLs.nil _ _, hB1.alloc hB1.size _⟩
  have hBs : w.heap.size ≤ w1.heap.size := hB1.size
  rw [← hW1]
  clear hW1 hset hB1 q
  generalize hBd : w1.heap.size = B at st0 hbl hBs ⊢
  clear hBd
  go_loopw [7, 16] (fun vo i wr => ∃ (k : Nat) (L : List Cel), k ≤ l.length ∧ i = .int .i64 k ∧ PartsS w (B + 1) B b l k vo L wr) (fun _ i _ => l.length - (intOf i).toNat)
  case atStart => exact ⟨0, _, Nat.zero_le _, rfl, st0⟩
  case round =>
    clear st0
    obtain ⟨k, L, hk, rfl, st⟩ := hrel
    rename World => w2
    rcases Nat.lt_or_eq_of_le hk with hkn | rfl
    · obtain ⟨bc, o, x, y, z, rfl, -, hbc, hc, r0, r1, r2⟩ := (hl.below st.below).cells hkn
      have hk0 : (0 : Int) ≤ k := by omega
      have hk1 : (k : Int) < l.length := by omega
      have wk := wrapS (n := (k : Int) + 1) (by omega)
      have hcl : (x, y, z) ∈ l := List.mem_of_getElem? hc
      have hX2 : Below w2.heap.size w2 (w2.alloc (.cells #[.int .i64 x, .int .i64 y, .int .i64 z] 24)) := below_alloc _ _
      have hLl : L.length ≤ l.length := nodup_len st.nd fun d h => ((st.mem d).1 h).1
      have q := part_ok (x, y, z) b B L _ ((hX2.block _ st.left.lt).trans st.left) (st.set.below hX2 st.set.lt) st.nd (by omega) (fun d h => (hnear d ((st.mem d).1 h).1).mono (by omega))
      unfold cellV at q
      dsimp only at q
      have hform := st.out.sl.form
      obtain ⟨Ao, co, rfl⟩ := hform
      have hHK := Lib.hid (show k + 1 ≤ l.length from hkn)
      have hHM := Lib.hid (show l.length - (k + 1) < l.length - k by omega)
      have HC := Lib.hid hc
      go_wp2_with fail
      refine q.mono ?_
      rintro e w3 ⟨vp, p, L2, rfl, hown, hset3, hnd3, hmem3, hcase, hk3⟩
      have hX3 : Below w.heap.size w w3 := Below.keep1' (st.below.trans (hX2.mono st.below.size)) hk3 hb (by have := st.below.size; simp; omega)
      have hleft3 : Boxed w3 B 157 (.map (some b)) := Boxed.keep1 (st.set.below hX2 st.set.lt) hk3 ((hX2.block _ st.left.lt).trans st.left)
      have hout3 := (st.out.keep hX2).keep1 hk3 (by omega)
      have hmemL := st.mem
      obtain ⟨Ap, cp, rfl⟩ := hown.sl.form
      clear q r0 r1 r2 hc st hk3
      by_cases hin : (x, y, z) ∈ (partK NearR l k).flatten
      · have hp : p = [] := by
          rcases hcase with h | h
          · exact h.2
          · exact absurd hin ((hmemL _).1 h.1).2
        subst hp
        have st4 : PartsS w (B + 1) B b l (k + 1) (.slice Ao (partK NearR l k).length co) L2 w3 := by
          have e := partK_in HC.out hin
          refine ⟨hleft3, hset3, hnd3, fun d => ?_, by rw [e]; exact hout3, hX3⟩
          rw [e, hmem3, hmemL]
          simp
        clear hin hcase hmemL hmem3 hout3 hX3 hleft3 hset3 hnd3 hcl
        go_wp2_with fail
        go_roundw
        case rel => exact ⟨k + 1, _, hHK.out, by simp, st4⟩
        case measure => exact hHM.out
      · rcases hcase with h | ⟨h, i, dn, hpi, hil⟩
        · exact absurd ((hmemL _).2 ⟨hcl, hin⟩) h.1
        have hT : (fun d => d ∈ L) = fun d => d ∈ l ∧ d ∉ (partK NearR l k).flatten := funext fun d => propext (hmemL d)
        rw [hT] at hpi
        have hpp : 0 < p.length := List.length_pos_iff.2 (List.ne_nil_of_mem hpi.here)
        have hpp' : (0 : Int) < (p.length : Int) := by omega
        have hpl : p.length ≤ l.length := nodup_len hpi.nodup fun d hd => (hpi.mem d hd).1
        have q := sortedG p _ w3 hown.sl (by omega)
        go_wp2_with fail
        refine q.mono ?_
        rintro e w4 ⟨Bq, out, rfl, hBq, hF, hu, hm, hB4⟩
        have hpt : out = partC NearR l (x, y, z) := part_is hup nearR_sym (by omega) hcl hin hpi hil hu hm
        have hX4 : Below w.heap.size w w4 := hX3.trans (hB4.mono hX3.size)
        have hB3 : B + 1 ≤ w3.heap.size := by have := hleft3.lt; omega
        have hlay : LayC w4 (B + 1) (.slice (some ⟨Bq, 0, none⟩) out.length out.length) out := hF.lay (by omega)
        have hout4 := hout3.keep hB4
        have hleft4 : Boxed w4 B 157 (.map (some b)) := (hB4.block _ hleft3.lt).trans hleft3
        have hset4 := hset3.below hB4 hset3.lt
        have hlen := partK_le l k
        obtain ⟨A2, c2, w5, hap, hout5, hB5⟩ := run_append_list w4 27 (B + 1) _ _ _ _ _ out hout4 hlay (by omega) (by have := hB4.size; omega)
        have hbB : b < B := hbl
        have st5 : PartsS w (B + 1) B b l (k + 1) (.slice A2 ((partK NearR l k).length + 1) c2) L2 w5 := by
          have e := partK_new HC.out hin
          refine ⟨(hB5.block _ (by omega)).trans hleft4, hset4.keep (hB5.block _ (by omega)), hnd3, fun d => ?_, by rw [e, ← hpt]; exact hout5, hX4.trans (hB5.mono (by omega))⟩
          rw [hmem3, hmemL, taken_new HC.out hin (p := p) (fun d => by rw [← hpt]; exact (hm d).symm)]
          constructor
          · rintro ⟨⟨h1, h2⟩, h3⟩
            exact ⟨h1, fun h => h.elim h2 h3⟩
          · rintro ⟨h1, h2⟩
            exact ⟨⟨h1, fun h => h2 (.inl h)⟩, fun h => h2 (.inr h)⟩
        have HAP := Lib.hid hap
        clear hap hin hmemL hmem3 hout3 hX3 hleft3 hset3 hnd3 hcl q hT hpi hu hm hF hout4 hleft4 hset4 hout5 hlay hpt
        go_wp2_with (at_builtin; refine Lib.wpList_append_run _ rfl _ _ _ _ rfl _ _ rfl rfl _ _ HAP.out ?_)
        go_roundw
        case rel => exact ⟨k + 1, _, hHK.out, by simp, st5⟩
        case measure => exact hHM.out
    · have hout := st.out
      have hX := st.below
      clear st
      go_wp2
      go_ret
      exact ⟨_, rfl, hout.mono (by omega), hX⟩
theorem Parts_ok (l : List Cel) (v : Value) (w : World) (hl : Sl w v l) (hc : chkI l = 0) :
    Calls Tryz.prog 7 #[v] w fun e w' => ∃ v', e = .returned (.tuple #[v', .int .i64 0]) ∧ OwnLs w' w.heap.size v' (partK NearR l l.length) ∧ Below w.heap.size w w' := by
  obtain ⟨hlen, hnear0, hup⟩ := chkI_zero.1 hc
  have h1 := gridCheckG l v w hl (by unfold maxLen; omega)
  rw [hc] at h1
  have hp := fun W (h : Below w.heap.size w W) => parts_ok l v W (hl.below h) hlen hnear0 hup
  clear hl hc hnear0 hlen hup
  go_enter Tryz.func7, Tryz.ntmps7
  go_wp2_with fail
  refine h1.mono ?_
  rintro e w2 ⟨rfl, hX⟩
  have q := hp _ hX
  clear hp
  go_wp2_with fail
  refine q.mono ?_
  rintro e w3 ⟨v1, rfl, ho1, hB⟩
  have hX3 := hX.trans (hB.mono hX.size)
  have ho := ho1.mono hX.size
  clear q ho1 hX hB
  go_wp2
  go_ret2
  exact ⟨_, rfl, ho, hX3⟩
theorem Parts_bad (l : List Cel) (v : Value) (w : World) (hl : Sl w v l) (hn : l.length ≤ maxLen) (r : Int) (hr : chkI l = r) (h0 : r ≠ 0) :
    Calls Tryz.prog 7 #[v] w fun e w' => e = .returned (.tuple #[.slice none 0 0, .int .i64 r]) ∧ Below w.heap.size w w' := by
  have h1 := gridCheckG l v w hl hn
  rw [hr] at h1
  have hne : (r != 0) = true := by rw [bne_iff_ne]; exact h0
  clear hl hn hr h0
  go_enter Tryz.func7, Tryz.ntmps7
  go_wp2_with fail
  refine h1.mono ?_
  rintro e w2 ⟨rfl, hX⟩
  go_wp2
  go_ret2
  exact ⟨rfl, hX⟩
theorem Shell_bad (l : List Cel) (v : Value) (w : World) (hl : Sl w v l) (hn : l.length ≤ maxLen) (r : Int) (hr : chkI l = r) (h0 : r ≠ 0) :
    Calls Tryz.prog 8 #[v] w fun e w' => e = .returned (.tuple #[.slice none 0 0, .int .i64 r]) ∧ Below w.heap.size w w' := by
  have h1 := gridCheckG l v w hl hn
  rw [hr] at h1
  have hne : (r != 0) = true := by rw [bne_iff_ne]; exact h0
  clear hl hn hr h0
  go_enter Tryz.func8, Tryz.ntmps8
  go_wp2_with fail
  refine h1.mono ?_
  rintro e w2 ⟨rfl, hX⟩
  go_wp2
  go_ret2
  exact ⟨rfl, hX⟩
end Go.Proofs
end

section
/- The distance of two cells. -/
namespace Go.Proofs
open Go.RowKit
set_option maxHeartbeats 8000000
set_option maxRecDepth 1000000

theorem size1_ok (n : Int) (h : -9000000 ≤ n ∧ n ≤ 9000000) (w : World) :
    Calls Tryz.prog 63 #[.int .i64 n] w fun e w' => e = .returned (.int .i64 (max n (-n))) ∧ w' = w := by
  have a1 := wrapS (n := -n) (by omega)
  clear h
  go_enter Tryz.func63, Tryz.ntmps63
  go_wp2
  go_ret
  exact ⟨by simp, rfl⟩
theorem refDistance_ok (a b : Cel) (ha : Near a 3000) (hb : Near b 3000) (w : World) :
    Calls Tryz.prog 21 #[cellV a, cellV b] w fun e w' => e = .returned (.int .i64 (distI a b)) ∧ Below w.heap.size w w' := by
  obtain ⟨x, y, z⟩ := a
  obtain ⟨x', y', z'⟩ := b
  unfold Near at ha hb
  have hd : distI (x, y, z) (x', y', z') = max (x - x') (-(x - x')) + max (y - y') (-(y - y')) + max (z - z') (-(z - z')) := by
    unfold distI
    dsimp only
    omega
  rw [hd]
  clear hd
  unfold cellV
  dsimp only at ha hb ⊢
  have a1 := wrapS (n := x - x') (by omega)
  have b1 := wrapS (n := y - y') (by omega)
  have c1 := wrapS (n := z - z') (by omega)
  have s1 := fun W => size1_ok (x - x') (by omega) W
  have s2 := fun W => size1_ok (y - y') (by omega) W
  have s3 := fun W => size1_ok (z - z') (by omega) W
  have hm1 : -6000 ≤ max (x - x') (-(x - x')) ∧ max (x - x') (-(x - x')) ≤ 6000 := by omega
  have hm2 : -6000 ≤ max (y - y') (-(y - y')) ∧ max (y - y') (-(y - y')) ≤ 6000 := by omega
  have hm3 : -6000 ≤ max (z - z') (-(z - z')) ∧ max (z - z') (-(z - z')) ≤ 6000 := by omega
  generalize max (x - x') (-(x - x')) = m1 at s1 hm1 ⊢
  generalize max (y - y') (-(y - y')) = m2 at s2 hm2 ⊢
  generalize max (z - z') (-(z - z')) = m3 at s3 hm3 ⊢
  have d1 := wrapS (n := m1 + m2) (by omega)
  have d2 := wrapS (n := m1 + m2 + m3) (by omega)
  clear ha hb hm1 hm2 hm3
  obtain ⟨W, hW⟩ : ∃ W, W = ((w.alloc (.cells #[.int .i64 x, .int .i64 y, .int .i64 z] 24)).alloc (.cells #[.int .i64 x', .int .i64 y', .int .i64 z'] 24)) := ⟨_, rfl⟩
  have hBW : Below w.heap.size w W := by subst hW; exact ((Below.refl _ _).alloc (Nat.le_refl _) _).alloc (by simp) _
  have e0 : W.cell? ⟨w.heap.size, 0, none⟩ = some (.int .i64 x) := by subst hW; go_simp
  have e1 : W.cell? ⟨w.heap.size, 1, none⟩ = some (.int .i64 y) := by subst hW; go_simp
  have e2 : W.cell? ⟨w.heap.size, 2, none⟩ = some (.int .i64 z) := by subst hW; go_simp
  have e3 : W.cell? ⟨w.heap.size + 1, 0, none⟩ = some (.int .i64 x') := by subst hW; go_simp
  have e4 : W.cell? ⟨w.heap.size + 1, 1, none⟩ = some (.int .i64 y') := by subst hW; go_simp
  have e5 : W.cell? ⟨w.heap.size + 1, 2, none⟩ = some (.int .i64 z') := by subst hW; go_simp
  go_enter Tryz.func21, Tryz.ntmps21
  go_wp2
  rw [← hW]
  clear hW
  go_region_held3 (fun w' => w'.cell? ⟨w.heap.size, 0, none⟩ = some (.int .i64 x) ∧ w'.cell? ⟨w.heap.size, 1, none⟩ = some (.int .i64 y) ∧ w'.cell? ⟨w.heap.size, 2, none⟩ = some (.int .i64 z) ∧ w'.cell? ⟨w.heap.size + 1, 0, none⟩ = some (.int .i64 x') ∧ w'.cell? ⟨w.heap.size + 1, 1, none⟩ = some (.int .i64 y') ∧ w'.cell? ⟨w.heap.size + 1, 2, none⟩ = some (.int .i64 z')) (first | exact ⟨e0, e1, e2, e3, e4, e5⟩ | go_keep) (first | (go_at_call 63; first
    | (with_reducible refine (s1 _).mono ?_; rintro e wr ⟨rfl, hwr⟩; subst hwr)
    | (with_reducible refine (s2 _).mono ?_; rintro e wr ⟨rfl, hwr⟩; subst hwr)
    | (with_reducible refine (s3 _).mono ?_; rintro e wr ⟨rfl, hwr⟩; subst hwr)))
  go_wp2
  go_ret
  exact ⟨rfl, hBW.drew⟩
end Go.Proofs
end

section
/- The reference's joined. -/
namespace Go.Proofs
open Go.RowKit
set_option maxHeartbeats 8000000
set_option maxRecDepth 1000000
theorem joined_ok (a b : Cel) (ha : Near a 3000) (hb : Near b 3000) (w : World) (zb : Bool) (hz : decide (distI a b = 1) = zb) :
    Calls Tryz.prog 116 #[cellV a, cellV b, .bool false] w fun e w' => e = .returned (.bool zb) ∧ Below w.heap.size w w' := by
  have q := fun W => refDistance_ok a b ha hb W
  have he : (distI a b == 1) = zb := by rw [← hz]; rfl
  obtain ⟨x, y, z⟩ := a
  obtain ⟨x', y', z'⟩ := b
  generalize distI (x, y, z) (x', y', z') = dd at q he
  unfold cellV at q ⊢
  dsimp only at q ⊢
  clear ha hb hz
  go_enter Tryz.func116, Tryz.ntmps116
  go_wp2_with (go_at_call 21; refine (q _).mono ?_; rintro e w1 ⟨rfl, hB⟩)
  go_ret
  exact ⟨by rw [← he]; rfl, (((Below.refl w.heap.size w).alloc (Nat.le_refl _) _).alloc (by simp) _).trans (hB.mono (by simp; omega))⟩
end Go.Proofs
end
