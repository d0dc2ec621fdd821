/- shop.Fewest of three items. -/
import Derived.Test.YtdiddniddohhgaaGreatDoorFewA
import Derived.Test.YtdiddniddohhgaaGreatDoorFewV
namespace Go.Proofs
open Go.RowKit Go.Shelf Go.MapKept
set_option maxHeartbeats 16000000
set_option maxRecDepth 1000000
attribute [local go_sem] Oper.semAt_some
def itemsL : List (ByteArray × ByteArray × Int) := [(⟨#[97]⟩, ⟨#[112]⟩, 3), (⟨#[98]⟩, ⟨#[113]⟩, 4), (⟨#[99]⟩, ⟨#[112]⟩, 2)]
def szF (l : List (ByteArray × Int)) (x : ByteArray × ByteArray × Int) : List (ByteArray × Int) := putS x.2.1 ((getS x.2.1 l).getD 0 + x.2.2) l
def szL (k : Nat) : List (ByteArray × Int) := (itemsL.take k).foldl szF []
theorem szL_succ {k : Nat} {x : ByteArray × ByteArray × Int} (h : itemsL[k]? = some x) : szL (k + 1) = szF (szL k) x := by
  unfold szL
  rw [List.take_add_one, h]
  simp
theorem szL_small : ∀ (k : Nat) (x : ByteArray × ByteArray × Int), itemsL[k]? = some x → 0 ≤ (getS x.2.1 (szL k)).getD 0 + x.2.2 ∧ (getS x.2.1 (szL k)).getD 0 + x.2.2 ≤ 100
  | 0, x, h => by obtain rfl : (_, _) = x := by simpa [itemsL] using h
                  decide
  | 1, x, h => by obtain rfl : (_, _) = x := by simpa [itemsL] using h
                  decide
  | 2, x, h => by obtain rfl : (_, _) = x := by simpa [itemsL] using h
                  decide
  | k + 3, x, h => by simp [itemsL] at h
theorem szL_3 : szL 3 = [(⟨#[112]⟩, 5), (⟨#[113]⟩, 4)] := by decide
theorem items_cells {w : World} {b o : Nat} (hc : ∀ (i : Nat) (v : Value), itemsV[i]? = some v → w.cell? ⟨b, i + o, none⟩ = some v) : ∀ (k : Nat) (x : ByteArray × ByteArray × Int), itemsL[k]? = some x →
    w.cell? ⟨b, o + k * 3, none⟩ = some (.string x.1) ∧ w.cell? ⟨b, o + k * 3 + 1, none⟩ = some (.string x.2.1) ∧ w.cell? ⟨b, o + k * 3 + 2, none⟩ = some (.int .i64 x.2.2)
  | 0, x, h => by obtain rfl : (_, _) = x := by simpa [itemsL] using h
                  refine ⟨?_, ?_, ?_⟩
                  · rw [show o + 0 * 3 = 0 + o by omega]; exact hc 0 _ rfl
                  · rw [show o + 0 * 3 + 1 = 1 + o by omega]; exact hc 1 _ rfl
                  · rw [show o + 0 * 3 + 2 = 2 + o by omega]; exact hc 2 _ rfl
  | 1, x, h => by obtain rfl : (_, _) = x := by simpa [itemsL] using h
                  refine ⟨?_, ?_, ?_⟩
                  · rw [show o + 1 * 3 = 3 + o by omega]; exact hc 3 _ rfl
                  · rw [show o + 1 * 3 + 1 = 4 + o by omega]; exact hc 4 _ rfl
                  · rw [show o + 1 * 3 + 2 = 5 + o by omega]; exact hc 5 _ rfl
  | 2, x, h => by obtain rfl : (_, _) = x := by simpa [itemsL] using h
                  refine ⟨?_, ?_, ?_⟩
                  · rw [show o + 2 * 3 = 6 + o by omega]; exact hc 6 _ rfl
                  · rw [show o + 2 * 3 + 1 = 7 + o by omega]; exact hc 7 _ rfl
                  · rw [show o + 2 * 3 + 2 = 8 + o by omega]; exact hc 8 _ rfl
  | k + 3, x, h => by simp [itemsL] at h
def accF (acc x : Int) : Int := IntKind.i64.wrap (acc + IntKind.i64.wrap ((IntKind.i64.wrap (IntKind.i64.wrap (x + 5) - 1)).tdiv 5))
theorem acc_perm {ys : List Int} (h : ys.Perm ((szL 3).map (·.2))) : ys.foldl accF 0 = 2 := by
  rw [szL_3] at h
  have h1 : ys.Perm [5, 4] := h
  match ys, h1 with
  | [x, y], h1 =>
    have hx : x ∈ [(5 : Int), 4] := h1.mem_iff.1 (by simp)
    have hy : y ∈ [(5 : Int), 4] := h1.mem_iff.1 (by simp)
    simp only [List.mem_cons, List.not_mem_nil, or_false] at hx hy
    rcases hx with rfl | rfl <;> rcases hy with rfl | rfl <;> decide
  | [], h1 => exact absurd h1.length_eq (by simp)
  | [x], h1 => exact absurd h1.length_eq (by simp)
  | x :: y :: z :: l, h1 => exact absurd h1.length_eq (by simp)
theorem stepM {k : Nat} (h : k < 3) : 3 - (intOf (.int .i64 ((k : Int) + 1))).toNat < 3 - (intOf (.int .i64 (k : Int))).toNat := by simp [intOf]; omega
theorem run_makeMapN (t : TypeId) (w : World) : (Instr.makeMap t none).run Tryz.prog w = .ok (.map (some w.heap.size)) (w.alloc (.map #[] 0)) := by
  simp [Instr.makeMap]
theorem fewest_ok {w : World} {b o c : Nat} (hn : 3 ≤ c) (hb : b < w.heap.size) (hc : ∀ (i : Nat) (v : Value), itemsV[i]? = some v → w.cell? ⟨b, i + o, none⟩ = some v) :
    Calls Tryz.prog 10 #[.slice (some ⟨b, o, none⟩) 3 c, .int .i64 5] w fun e w' => e = .returned (.tuple #[.int .i64 2, .int .i64 0]) ∧ Below w.heap.size w w' := by
  have hat := items_cells hc
  obtain ⟨W1, hW1⟩ : ∃ W1, W1 = w.alloc (.cells #[.int .i64 5] 3) := ⟨_, rfl⟩
  have hX1 : Below w.heap.size w W1 := by subst hW1; exact (Below.refl _ _).alloc (Nat.le_refl _) _
  have hC1 : Boxed W1 w.heap.size 3 (.int .i64 5) := by subst hW1; exact Boxed.new _ _ _
  have c1 := hC1.cell
  have kI := items_ok (w := W1) hn (Nat.lt_of_lt_of_le hb hX1.size) (fun i v hi => (hX1.cell (p := ⟨b, i + o, none⟩) hb).trans (hc i v hi))
  have hsz1 : W1.heap.size = w.heap.size + 1 := by subst hW1; simp
  have HW1 := Lib.hid hW1
  have HAT := Lib.hid hat
  clear hat hc hW1
  refine (callsIn_wide (n := 3)).1 ?_
  refine callsIn_of_wp_marks Tryz.func10 rfl trivial ?_ rfl
  simp only [Tryz.ntmps10, List.size_toArray, List.length_cons, List.length_nil, Nat.reduceAdd, Nat.reduceSub, Array.replicate_succ, Array.replicate_zero, List.push_toArray, List.append_toArray, List.nil_append, List.cons_append]
  gi_wp2
  rw [← HW1.out]
  gi_wp2
  refine ⟨trivial, (callsIn_wide.2 kI).mono ?_⟩
  rintro e w2 ⟨rfl, hB2⟩
  have hX2 := hX1.trans (hB2.mono hX1.size)
  have hC2 : Boxed w2 w.heap.size 3 (.int .i64 5) := (hB2.block _ (by omega)).trans hC1
  have hmk := run_makeMapN 99 w2
  have hM0 := SMap.made w2
  have hs2 := hX2.size
  have hlt2 : w.heap.size < w2.heap.size := by have := hB2.size; omega
  have hX3 : Below w.heap.size w (w2.alloc (.map #[] 0)) := hX2.alloc hX2.size _
  have hC3 : Boxed (w2.alloc (.map #[] 0)) w.heap.size 3 (.int .i64 5) := (Below.heap_alloc _ _ _ hlt2).trans hC2
  clear c1 kI hC1 hB2
  gi_wp2
  clear hmk
  gi_loopw [21] (fun i wr => ∃ k : Nat, k ≤ 3 ∧ i = .int .i64 k ∧ SMap wr w2.heap.size (szL k) ∧ Boxed wr w.heap.size 3 (.int .i64 5) ∧ w2.heap.size < wr.heap.size ∧ Below w.heap.size w wr) (fun i _ => 3 - (intOf i).toNat)
  case atStart => exact ⟨0, by omega, rfl, hM0, hC3, by simp, hX3⟩
  case round =>
    clear hM0 hX3 hC3
    obtain ⟨k, hk, rfl, hM, hC, hz, hBw⟩ := hrel
    rcases Nat.lt_or_eq_of_le hk with hkn | rfl
    · obtain ⟨⟨s, p, n⟩, hx⟩ : ∃ x, itemsL[k]? = some x := ⟨_, List.getElem?_eq_getElem (show k < itemsL.length from hkn)⟩
      obtain ⟨j0, j1, j2⟩ := HAT.out k _ hx
      have hsm := szL_small k _ hx
      have hsc := szL_succ hx
      unfold szF at hsc
      dsimp only at j0 j1 j2 hsm hsc
      have r0 := (hBw.cell (p := ⟨b, o + k * 3, none⟩) hb).trans j0
      have r1 := (hBw.cell (p := ⟨b, o + k * 3 + 1, none⟩) hb).trans j1
      have r2 := (hBw.cell (p := ⟨b, o + k * 3 + 2, none⟩) hb).trans j2
      have hi0 : (0 : Int) ≤ k := by omega
      have hi1 : (k : Int) < 3 := by omega
      obtain ⟨Wt, hW⟩ : ∃ Wt, Wt = (wr.alloc (.cells #[.string s, .string p, .int .i64 n] 48)) := ⟨_, rfl⟩
      have hb0 : Wt.heap[wr.heap.size]? = some (.cells #[.string s, .string p, .int .i64 n] 48 (0, 0)) := by subst hW; exact heap_alloc_new wr _
      obtain ⟨e0, e1, e2⟩ := three_rows hb0
      have hYt : Below w.heap.size w Wt := by subst hW; exact hBw.alloc hBw.size _
      have hMt : SMap Wt w2.heap.size (szL k) := by subst hW; exact hM.keep (Below.heap_alloc _ _ _ hz)
      have hCt : Boxed Wt w.heap.size 3 (.int .i64 5) := by subst hW; exact (Below.heap_alloc _ _ _ (by omega)).trans hC
      have hzt : w2.heap.size < Wt.heap.size := hMt.lt
      have hl := lookup_smap hMt p
      obtain ⟨v, hv⟩ : ∃ v, v = (getS p (szL k)).getD 0 := ⟨_, rfl⟩
      rw [← hv] at hl hsm hsc
      obtain ⟨w4, hu, hM4, hg4⟩ := update_smap hMt p (v + n)
      rw [← hsc] at hM4
      have hC4 : Boxed w4 w.heap.size 3 (.int .i64 5) := (hg4.block _ (by omega) (by simp; omega)).trans hCt
      have hz4 : w2.heap.size < w4.heap.size := hM4.lt
      have hB4 : Below w.heap.size w w4 := hYt.grown hg4 hYt.size (fun j hj => by injection hj with hj; omega)
      have hwv : wrap64 (v + n) = v + n ∧ IntKind.i64.wrap (v + n) = v + n := ⟨wrap64_small (by omega), wrap_small (by omega)⟩
      obtain ⟨hw5, hw6⟩ := hwv
      obtain ⟨wk1, wk2⟩ := wrapsK hkn (by omega)
      have HK := Lib.hid (show k + 1 ≤ 3 from hkn)
      clear hM hMt hCt hsm hsc hx j0 j1 j2 hv hYt hg4 hzt hC
      gi_wp2
      rw [← hW]
      clear hW r0 r1 r2
      gi_wp2
      rw [hl]
      gi_wp2
      exact ⟨⟨k + 1, HK.out, by simp, hM4, hC4, hz4, hB4⟩, stepM hkn⟩
    · have kV := fun V => mapsValues_ok w2.heap.size V
      gi_wp2
      obtain ⟨W6, hW6⟩ : ∃ W6, W6 = wr.alloc (.cells #[.int .i64 0] 3) := ⟨_, rfl⟩
      rw [← hW6]
      have hX6 : Below w.heap.size w W6 := by subst hW6; exact hBw.alloc hBw.size _
      have hT6 : Boxed W6 wr.heap.size 3 (.int .i64 0) := by subst hW6; exact Boxed.new _ _ _
      have hC6 : Boxed W6 w.heap.size 3 (.int .i64 5) := by subst hW6; exact (Below.heap_alloc _ _ _ (by omega)).trans hC
      have hM6 : SMap W6 w2.heap.size (szL 3) := by subst hW6; exact hM.keep (Below.heap_alloc _ _ _ hz)
      have hs6 : W6.heap.size = wr.heap.size + 1 := by subst hW6; simp
      clear hW6 hM hC HAT
      refine ⟨trivial, (callsIn_wide.2 (kV _)).mono ?_⟩
      rintro e W7 ⟨rfl, hW7⟩
      have hX67 : Below W6.heap.size W6 W7 := by subst hW7; exact (Below.refl _ _).alloc (Nat.le_refl _) _
      have hF7 : Boxed W7 W6.heap.size 99 (.map (some w2.heap.size)) := by subst hW7; exact Boxed.new _ _ _
      have hs7 : W7.heap.size = W6.heap.size + 1 := by subst hW7; simp
      have hT7 : Boxed W7 wr.heap.size 3 (.int .i64 0) := (hX67.block _ (by omega)).trans hT6
      have hC7 : Boxed W7 w.heap.size 3 (.int .i64 5) := (hX67.block _ (by omega)).trans hC6
      have hM7 : SMap W7 w2.heap.size (szL 3) := hM6.keep (hX67.block _ (by omega))
      have hX7 : Below w.heap.size w W7 := hX6.trans (hX67.mono hX6.size)
      clear hW7 kV hM6 hC6 hT6 hX67 hX6
      gi_wp2
      have hcF := hF7.cell
      rw [hs6] at hcF hs7
      refine wpIn_rangeFunc_ownH (F := Fence.wide) rfl (by omega) (gf := 97) (lb := #[.pointer (some ⟨wr.heap.size + 1, 0, none⟩)]) rfl trivial enters_values
        (values_stops 2 (by omega) (wr.heap.size + 1) w2.heap.size (szL 3) W7 w2.heap.size hcF (by omega) hM7)
        (fun h k => ⟨belowK_t h.1 k.1, h.2.trans k.2⟩) (fun X k o o' q1 q2 q3 q4 => ⟨belowK_b (w := W7) (by omega) X k o o' q1 q2 q3 q4, walksK_b (w := W7) X k o o' q1 q2 q3 q4⟩) (Below.refl _ _) (fun _ => rfl)
        (fun pre W => Boxed W wr.heap.size 3 (.int .i64 (pre.foldl accF 0)) ∧ Boxed W w.heap.size 3 (.int .i64 5) ∧ Below w.heap.size w W)
        (fun _ _ _ => False)
        (fun pre X Y row hs hg hr => by
          obtain ⟨g1, g2, g3⟩ := hs
          have hk : ∀ k, k < W7.heap.size → k < X.heap.size → Y.heap[k]? = X.heap[k]? := fun k hk hx => hg.block k hx (fun e => by have := (hr k e.symm).1; omega)
          exact ⟨(hk _ (by omega) g1.lt).trans g1, (hk _ (by omega) g2.lt).trans g2, g3.grown hg g3.size (fun j e => by have := (hr j e).1; omega)⟩)
        (fun _ _ _ _ _ hs _ _ => hs)
        ⟨hT7, hC7, hX7⟩
        (fun x a' _ => a' = { tmps := #[.slice (some ⟨b, o, none⟩) 3 c, .int .i64 5, undef, .pointer (some ⟨w.heap.size, 0, none⟩), .int .i64 0, .int .i64 0, .int .i64 0, .map (some w2.heap.size), undef, u9, .pointer (some ⟨wr.heap.size, 0, none⟩), .int .i64 x, .slice (some ⟨b, o, none⟩) 3 c, .int .i64 5, .int .i64 0, .int .i64 0, .bool false, undef, .map (some w2.heap.size), .slice (some ⟨b, o, none⟩) 3 c, .int .i64 3, .int .i64 3, .bool false, u23, u24, u25, u26, u27, u28, u29, u30, u31, u32, .map (some w2.heap.size), .func (.func 97) #[] #[.pointer (some ⟨wr.heap.size + 1, 0, none⟩)], .int .i64 x, undef, undef, undef, undef, undef, undef, undef, undef, undef], defers := [] })
        (fun x a' _ _ _ _ hs _ _ => hs)
        ?assign ?body ?done ?stop
      case assign =>
        rintro l pre x W K hI hK
        gi_wp2
        exact hK _ _ (KeepsFrom.refl _ _) ⟨Below.refl _ _, KeepsWalks.refl _⟩ hI rfl
      case stop =>
        rintro D c pre W _ _ h _
        exact h.elim
      case body =>
        rintro l pre x a' W hl ⟨r, hr⟩ ⟨bT, bC, hB⟩ rfl hlt
        have cT := bT.cell
        have fT := bT.frozen
        have cC := bC.cell
        obtain ⟨acc, hacc⟩ : ∃ acc, pre.foldl accF 0 = acc := ⟨_, rfl⟩
        rw [hacc] at bT cT
        gi_wp2
        have k0 : KeepsOthers W (W.setCell ⟨wr.heap.size, 0, none⟩ (.int .i64 (accF acc x))) := KeepsOthers.setCell W ⟨wr.heap.size, 0, none⟩ _
        have k1 : KeepsFrom W7.heap.size W (W.setCell ⟨wr.heap.size, 0, none⟩ (.int .i64 (accF acc x))).drew := ⟨k0.size, fun k o _ hk ho => k0.same k o hk ho⟩
        have k2 : KeepsV w2.heap.size W (W.setCell ⟨wr.heap.size, 0, none⟩ (.int .i64 (accF acc x))).drew :=
          ⟨((Below.refl _ _).grown (grownBy_setCell' W wr.heap.size _) (by have := bT.lt; omega) (fun k e => by cases e; omega)).drew, ⟨k0.walks.size, fun k o hk ho => k0.walks.same k o hk ho⟩⟩
        have k3 : Boxed (W.setCell ⟨wr.heap.size, 0, none⟩ (.int .i64 (accF acc x))).drew wr.heap.size 3 (.int .i64 ((pre ++ [x]).foldl accF 0)) ∧ Boxed (W.setCell ⟨wr.heap.size, 0, none⟩ (.int .i64 (accF acc x))).drew w.heap.size 3 (.int .i64 5) ∧ Below w.heap.size w (W.setCell ⟨wr.heap.size, 0, none⟩ (.int .i64 (accF acc x))).drew := by
          refine ⟨?_, bC.other (by omega) _, hB.trans (k2.1.mono (by omega))⟩
          rw [List.foldl_append, hacc]
          exact bT.set _
        clear k0
        unfold accF at k1 k2 k3
        gi_region_with (fail)
        all_goals exact ⟨k1, k2, k3⟩
      case done =>
        rintro D ys W hD hys ⟨bT, bC, hB⟩ hKd
        have cT := bT.cell
        gi_wp2
        have hacc : ys.foldl accF 0 = 2 := acc_perm hys
        rw [hacc]
        refine ⟨by simp, .inl ⟨_, _, rfl, run_takeDeferred hKd, ?_⟩⟩
        exact ⟨_, results_tmp2 rfl _ _ _, rfl, hB.trans (belowK_b (w := W7) (by omega) W D _ _ (by omega) hKd rfl rfl)⟩
end Go.Proofs
