import Derived.Test.YtokfniicbeemdaaGreatDoorFewV
import Derived.Test.YtokfniicbeemdaaGreatDoorAwkS
section
/- shop.Fewest of three items. -/
namespace Go.Proofs
open Go.RowKit Go.Shelf Go.MapKept
set_option maxHeartbeats 16000000
set_option maxRecDepth 1000000
attribute [local go_sem] Oper.semAt_some
def itemsL : List (ByteArray × ByteArray × Int) := [(⟨#[97]⟩, ⟨#[112]⟩, 3), (⟨#[98]⟩, ⟨#[113]⟩, 4), (⟨#[99]⟩, ⟨#[112]⟩, 2)]
def szF (l : List (ByteArray × Int)) (x : ByteArray × ByteArray × Int) : List (ByteArray × Int) := putS x.2.1 ((getS x.2.1 l).getD 0 + x.2.2) l
def szL (k : Nat) : List (ByteArray × Int) := (itemsL.take k).foldl szF []
theorem szL_succ {k : Nat} {x : ByteArray × ByteArray × Int} (h : itemsL[k]? = some x) : szL (k + 1) = szF (szL k) x := by
  unfold szL
  rw [List.take_add_one, h]
  simp
theorem szL_small : ∀ (k : Nat) (x : ByteArray × ByteArray × Int), itemsL[k]? = some x → 0 ≤ (getS x.2.1 (szL k)).getD 0 + x.2.2 ∧ (getS x.2.1 (szL k)).getD 0 + x.2.2 ≤ 100
  | 0, x, h => by obtain rfl : (_, _) = x := by simpa [itemsL] using h
                  decide
  | 1, x, h => by obtain rfl : (_, _) = x := by simpa [itemsL] using h
                  decide
  | 2, x, h => by obtain rfl : (_, _) = x := by simpa [itemsL] using h
                  decide
  | k + 3, x, h => by simp [itemsL] at h
theorem szL_3 : szL 3 = [(⟨#[112]⟩, 5), (⟨#[113]⟩, 4)] := by decide
theorem items_cells {w : World} {b o : Nat} (hc : ∀ (i : Nat) (v : Value), itemsV[i]? = some v → w.cell? ⟨b, i + o, none⟩ = some v) : ∀ (k : Nat) (x : ByteArray × ByteArray × Int), itemsL[k]? = some x →
    w.cell? ⟨b, o + k * 3, none⟩ = some (.string x.1) ∧ w.cell? ⟨b, o + k * 3 + 1, none⟩ = some (.string x.2.1) ∧ w.cell? ⟨b, o + k * 3 + 2, none⟩ = some (.int .i64 x.2.2)
  | 0, x, h => by obtain rfl : (_, _) = x := by simpa [itemsL] using h
                  refine ⟨?_, ?_, ?_⟩
                  · rw [show o + 0 * 3 = 0 + o by omega]; exact hc 0 _ rfl
                  · rw [show o + 0 * 3 + 1 = 1 + o by omega]; exact hc 1 _ rfl
                  · rw [show o + 0 * 3 + 2 = 2 + o by omega]; exact hc 2 _ rfl
  | 1, x, h => by obtain rfl : (_, _) = x := by simpa [itemsL] using h
                  refine ⟨?_, ?_, ?_⟩
                  · rw [show o + 1 * 3 = 3 + o by omega]; exact hc 3 _ rfl
                  · rw [show o + 1 * 3 + 1 = 4 + o by omega]; exact hc 4 _ rfl
                  · rw [show o + 1 * 3 + 2 = 5 + o by omega]; exact hc 5 _ rfl
  | 2, x, h => by obtain rfl : (_, _) = x := by simpa [itemsL] using h
                  refine ⟨?_, ?_, ?_⟩
                  · rw [show o + 2 * 3 = 6 + o by omega]; exact hc 6 _ rfl
                  · rw [show o + 2 * 3 + 1 = 7 + o by omega]; exact hc 7 _ rfl
                  · rw [show o + 2 * 3 + 2 = 8 + o by omega]; exact hc 8 _ rfl
  | k + 3, x, h => by simp [itemsL] at h
def accF (acc x : Int) : Int := IntKind.i64.wrap (acc + IntKind.i64.wrap ((IntKind.i64.wrap (IntKind.i64.wrap (x + 5) - 1)).tdiv 5))
theorem acc_perm {ys : List Int} (h : ys.Perm ((szL 3).map (·.2))) : ys.foldl accF 0 = 2 := by
  rw [szL_3] at h
  have h1 : ys.Perm [5, 4] := h
  match ys, h1 with
  | [x, y], h1 =>
    have hx : x ∈ [(5 : Int), 4] := h1.mem_iff.1 (by simp)
    have hy : y ∈ [(5 : Int), 4] := h1.mem_iff.1 (by simp)
    simp only [List.mem_cons, List.not_mem_nil, or_false] at hx hy
    rcases hx with rfl | rfl <;> rcases hy with rfl | rfl <;> decide
  | [], h1 => exact absurd h1.length_eq (by simp)
  | [x], h1 => exact absurd h1.length_eq (by simp)
  | x :: y :: z :: l, h1 => exact absurd h1.length_eq (by simp)
theorem stepM {k : Nat} (h : k < 3) : 3 - (intOf (.int .i64 ((k : Int) + 1))).toNat < 3 - (intOf (.int .i64 (k : Int))).toNat := by simp [intOf]; omega
theorem run_makeMapN (t : TypeId) (w : World) : (Instr.makeMap t none).run Tryz.prog w = .ok (.map (some w.heap.size)) (w.alloc (.map #[] 0)) := by
  simp [Instr.makeMap]
theorem fewest_ok {w : World} {b o c : Nat} (hn : 3 ≤ c) (hb : b < w.heap.size) (hc : ∀ (i : Nat) (v : Value), itemsV[i]? = some v → w.cell? ⟨b, i + o, none⟩ = some v) :
    Calls Tryz.prog 13 #[.slice (some ⟨b, o, none⟩) 3 c, .int .i64 5] w fun e w' => e = .returned (.tuple #[.int .i64 2, .int .i64 0]) ∧ Below w.heap.size w w' := by
  have hat := items_cells hc
  obtain ⟨W1, hW1⟩ : ∃ W1, W1 = w.alloc (.cells #[.int .i64 5] 3) := ⟨_, rfl⟩
  have hX1 : Below w.heap.size w W1 := by subst hW1; exact (Below.refl _ _).alloc (Nat.le_refl _) _
  have hC1 : Boxed W1 w.heap.size 3 (.int .i64 5) := by subst hW1; exact Boxed.new _ _ _
  have c1 := hC1.cell
  have kI := items_ok (w := W1) hn (Nat.lt_of_lt_of_le hb hX1.size) (fun i v hi => (hX1.cell (p := ⟨b, i + o, none⟩) hb).trans (hc i v hi))
  have hsz1 : W1.heap.size = w.heap.size + 1 := by subst hW1; simp
  have HW1 := Lib.hid hW1
  have HAT := Lib.hid hat
  clear hat hc hW1
  refine (callsIn_wide (n := 3)).1 ?_
  refine callsIn_of_wp_marks Tryz.func13 rfl trivial ?_ rfl
  simp only [Tryz.ntmps13, List.size_toArray, List.length_cons, List.length_nil, Nat.reduceAdd, Nat.reduceSub, Array.replicate_succ, Array.replicate_zero, List.push_toArray, List.append_toArray, List.nil_append, List.cons_append]
  gi_wp2
  rw [← HW1.out]
  gi_wp2
  refine ⟨trivial, (callsIn_wide.2 kI).mono ?_⟩
  rintro e w2 ⟨rfl, hB2⟩
  have hX2 := hX1.trans (hB2.mono hX1.size)
  have hC2 : Boxed w2 w.heap.size 3 (.int .i64 5) := (hB2.block _ (by omega)).trans hC1
  have hmk := run_makeMapN 115 w2
  have hM0 := SMap.made w2
  have hs2 := hX2.size
  have hlt2 : w.heap.size < w2.heap.size := by have := hB2.size; omega
  have hX3 : Below w.heap.size w (w2.alloc (.map #[] 0)) := hX2.alloc hX2.size _
  have hC3 : Boxed (w2.alloc (.map #[] 0)) w.heap.size 3 (.int .i64 5) := (Below.heap_alloc _ _ _ hlt2).trans hC2
  clear c1 kI hC1 hB2
  gi_wp2
  clear hmk
  gi_loopw [21] (fun i wr => ∃ k : Nat, k ≤ 3 ∧ i = .int .i64 k ∧ SMap wr w2.heap.size (szL k) ∧ Boxed wr w.heap.size 3 (.int .i64 5) ∧ w2.heap.size < wr.heap.size ∧ Below w.heap.size w wr) (fun i _ => 3 - (intOf i).toNat)
  case atStart => exact ⟨0, by omega, rfl, hM0, hC3, by simp, hX3⟩
  case round =>
    clear hM0 hX3 hC3
    obtain ⟨k, hk, rfl, hM, hC, hz, hBw⟩ := hrel
    rcases Nat.lt_or_eq_of_le hk with hkn | rfl
    · obtain ⟨⟨s, p, n⟩, hx⟩ : ∃ x, itemsL[k]? = some x := ⟨_, List.getElem?_eq_getElem (show k < itemsL.length from hkn)⟩
      obtain ⟨j0, j1, j2⟩ := HAT.out k _ hx
      have hsm := szL_small k _ hx
      have hsc := szL_succ hx
      unfold szF at hsc
      dsimp only at j0 j1 j2 hsm hsc
      have r0 := (hBw.cell (p := ⟨b, o + k * 3, none⟩) hb).trans j0
      have r1 := (hBw.cell (p := ⟨b, o + k * 3 + 1, none⟩) hb).trans j1
      have r2 := (hBw.cell (p := ⟨b, o + k * 3 + 2, none⟩) hb).trans j2
      have hi0 : (0 : Int) ≤ k := by omega
      have hi1 : (k : Int) < 3 := by omega
      obtain ⟨Wt, hW⟩ : ∃ Wt, Wt = (wr.alloc (.cells #[.string s, .string p, .int .i64 n] 73)) := ⟨_, rfl⟩
      have hb0 : Wt.heap[wr.heap.size]? = some (.cells #[.string s, .string p, .int .i64 n] 73 (0, 0)) := by subst hW; exact heap_alloc_new wr _
      obtain ⟨e0, e1, e2⟩ := three_rows hb0
      have hYt : Below w.heap.size w Wt := by subst hW; exact hBw.alloc hBw.size _
      have hMt : SMap Wt w2.heap.size (szL k) := by subst hW; exact hM.keep (Below.heap_alloc _ _ _ hz)
      have hCt : Boxed Wt w.heap.size 3 (.int .i64 5) := by subst hW; exact (Below.heap_alloc _ _ _ (by omega)).trans hC
      have hzt : w2.heap.size < Wt.heap.size := hMt.lt
      have hl := lookup_smap hMt p
      obtain ⟨v, hv⟩ : ∃ v, v = (getS p (szL k)).getD 0 := ⟨_, rfl⟩
      rw [← hv] at hl hsm hsc
      obtain ⟨w4, hu, hM4, hg4⟩ := update_smap hMt p (v + n)
      rw [← hsc] at hM4
      have hC4 : Boxed w4 w.heap.size 3 (.int .i64 5) := (hg4.block _ (by omega) (by simp; omega)).trans hCt
      have hz4 : w2.heap.size < w4.heap.size := hM4.lt
      have hB4 : Below w.heap.size w w4 := hYt.grown hg4 hYt.size (fun j hj => by injection hj with hj; omega)
      have hwv : wrap64 (v + n) = v + n ∧ IntKind.i64.wrap (v + n) = v + n := ⟨wrap64_small (by omega), wrap_small (by omega)⟩
      obtain ⟨hw5, hw6⟩ := hwv
      obtain ⟨wk1, wk2⟩ := wrapsK hkn (by omega)
      have HK := Lib.hid (show k + 1 ≤ 3 from hkn)
      clear hM hMt hCt hsm hsc hx j0 j1 j2 hv hYt hg4 hzt hC
      gi_wp2
      rw [← hW]
      clear hW r0 r1 r2
      gi_wp2
      rw [hl]
      gi_wp2
      exact ⟨⟨k + 1, HK.out, by simp, hM4, hC4, hz4, hB4⟩, stepM hkn⟩
    · have kV := fun V => mapsValues_ok w2.heap.size V
      gi_wp2
      obtain ⟨W6, hW6⟩ : ∃ W6, W6 = wr.alloc (.cells #[.int .i64 0] 3) := ⟨_, rfl⟩
      rw [← hW6]
      have hX6 : Below w.heap.size w W6 := by subst hW6; exact hBw.alloc hBw.size _
      have hT6 : Boxed W6 wr.heap.size 3 (.int .i64 0) := by subst hW6; exact Boxed.new _ _ _
      have hC6 : Boxed W6 w.heap.size 3 (.int .i64 5) := by subst hW6; exact (Below.heap_alloc _ _ _ (by omega)).trans hC
      have hM6 : SMap W6 w2.heap.size (szL 3) := by subst hW6; exact hM.keep (Below.heap_alloc _ _ _ hz)
      have hs6 : W6.heap.size = wr.heap.size + 1 := by subst hW6; simp
      clear hW6 hM hC HAT
      refine ⟨trivial, (callsIn_wide.2 (kV _)).mono ?_⟩
      rintro e W7 ⟨rfl, hW7⟩
      have hX67 : Below W6.heap.size W6 W7 := by subst hW7; exact (Below.refl _ _).alloc (Nat.le_refl _) _
      have hF7 : Boxed W7 W6.heap.size 115 (.map (some w2.heap.size)) := by subst hW7; exact Boxed.new _ _ _
      have hs7 : W7.heap.size = W6.heap.size + 1 := by subst hW7; simp
      have hT7 : Boxed W7 wr.heap.size 3 (.int .i64 0) := (hX67.block _ (by omega)).trans hT6
      have hC7 : Boxed W7 w.heap.size 3 (.int .i64 5) := (hX67.block _ (by omega)).trans hC6
      have hM7 : SMap W7 w2.heap.size (szL 3) := hM6.keep (hX67.block _ (by omega))
      have hX7 : Below w.heap.size w W7 := hX6.trans (hX67.mono hX6.size)
      clear hW7 kV hM6 hC6 hT6 hX67 hX6
      gi_wp2
      have hcF := hF7.cell
      rw [hs6] at hcF hs7
      refine wpIn_rangeFunc_ownH (F := Fence.wide) rfl (by omega) (gf := 116) (lb := #[.pointer (some ⟨wr.heap.size + 1, 0, none⟩)]) rfl trivial enters_values
        (values_stops 2 (by omega) (wr.heap.size + 1) w2.heap.size (szL 3) W7 w2.heap.size hcF (by omega) hM7)
        (fun h k => ⟨belowK_t h.1 k.1, h.2.trans k.2⟩) (fun X k o o' q1 q2 q3 q4 => ⟨belowK_b (w := W7) (by omega) X k o o' q1 q2 q3 q4, walksK_b (w := W7) X k o o' q1 q2 q3 q4⟩) (Below.refl _ _) (fun _ => rfl)
        (fun pre W => Boxed W wr.heap.size 3 (.int .i64 (pre.foldl accF 0)) ∧ Boxed W w.heap.size 3 (.int .i64 5) ∧ Below w.heap.size w W)
        (fun _ _ _ => False)
        (fun pre X Y row hs hg hr => by
          obtain ⟨g1, g2, g3⟩ := hs
          have hk : ∀ k, k < W7.heap.size → k < X.heap.size → Y.heap[k]? = X.heap[k]? := fun k hk hx => hg.block k hx (fun e => by have := (hr k e.symm).1; omega)
          exact ⟨(hk _ (by omega) g1.lt).trans g1, (hk _ (by omega) g2.lt).trans g2, g3.grown hg g3.size (fun j e => by have := (hr j e).1; omega)⟩)
        (fun _ _ _ _ _ hs _ _ => hs)
        ⟨hT7, hC7, hX7⟩
        (fun x a' _ => a' = { tmps := #[.slice (some ⟨b, o, none⟩) 3 c, .int .i64 5, undef, .pointer (some ⟨w.heap.size, 0, none⟩), .int .i64 0, .int .i64 0, .int .i64 0, .map (some w2.heap.size), undef, u9, .pointer (some ⟨wr.heap.size, 0, none⟩), .int .i64 x, .slice (some ⟨b, o, none⟩) 3 c, .int .i64 5, .int .i64 0, .int .i64 0, .bool false, undef, .map (some w2.heap.size), .slice (some ⟨b, o, none⟩) 3 c, .int .i64 3, .int .i64 3, .bool false, u23, u24, u25, u26, u27, u28, u29, u30, u31, u32, .map (some w2.heap.size), .func (.func 116) #[] #[.pointer (some ⟨wr.heap.size + 1, 0, none⟩)], .int .i64 x, undef, undef, undef, undef, undef, undef, undef, undef, undef], defers := [] })
        (fun x a' _ _ _ _ hs _ _ => hs)
        ?assign ?body ?done ?stop
      case assign =>
        rintro l pre x W K hI hK
        gi_wp2
        exact hK _ _ (KeepsFrom.refl _ _) ⟨Below.refl _ _, KeepsWalks.refl _⟩ hI rfl
      case stop =>
        rintro D c pre W _ _ h _
        exact h.elim
      case body =>
        rintro l pre x a' W hl ⟨r, hr⟩ ⟨bT, bC, hB⟩ rfl hlt
        have cT := bT.cell
        have fT := bT.frozen
        have cC := bC.cell
        obtain ⟨acc, hacc⟩ : ∃ acc, pre.foldl accF 0 = acc := ⟨_, rfl⟩
        rw [hacc] at bT cT
        gi_wp2
        have k0 : KeepsOthers W (W.setCell ⟨wr.heap.size, 0, none⟩ (.int .i64 (accF acc x))) := KeepsOthers.setCell W ⟨wr.heap.size, 0, none⟩ _
        have k1 : KeepsFrom W7.heap.size W (W.setCell ⟨wr.heap.size, 0, none⟩ (.int .i64 (accF acc x))).drew := ⟨k0.size, fun k o _ hk ho => k0.same k o hk ho⟩
        have k2 : KeepsV w2.heap.size W (W.setCell ⟨wr.heap.size, 0, none⟩ (.int .i64 (accF acc x))).drew :=
          ⟨((Below.refl _ _).grown (grownBy_setCell' W wr.heap.size _) (by have := bT.lt; omega) (fun k e => by cases e; omega)).drew, ⟨k0.walks.size, fun k o hk ho => k0.walks.same k o hk ho⟩⟩
        have k3 : Boxed (W.setCell ⟨wr.heap.size, 0, none⟩ (.int .i64 (accF acc x))).drew wr.heap.size 3 (.int .i64 ((pre ++ [x]).foldl accF 0)) ∧ Boxed (W.setCell ⟨wr.heap.size, 0, none⟩ (.int .i64 (accF acc x))).drew w.heap.size 3 (.int .i64 5) ∧ Below w.heap.size w (W.setCell ⟨wr.heap.size, 0, none⟩ (.int .i64 (accF acc x))).drew := by
          refine ⟨?_, bC.other (by omega) _, hB.trans (k2.1.mono (by omega))⟩
          rw [List.foldl_append, hacc]
          exact bT.set _
        clear k0
        unfold accF at k1 k2 k3
        gi_region_with (fail)
        all_goals exact ⟨k1, k2, k3⟩
      case done =>
        rintro D ys W hD hys ⟨bT, bC, hB⟩ hKd
        have cT := bT.cell
        gi_wp2
        have hacc : ys.foldl accF 0 = 2 := acc_perm hys
        rw [hacc]
        refine ⟨by simp, .inl ⟨_, _, rfl, run_takeDeferred hKd, ?_⟩⟩
        exact ⟨_, results_tmp2 rfl _ _ _, rfl, hB.trans (belowK_b (w := W7) (by omega) W D _ _ (by omega) hKd rfl rfl)⟩
end Go.Proofs
end

section
/- The fixed examples of chapter 9: Fewest of three items as a summary for the machine. -/
namespace Go.Proofs
open Go.AM Go.RowKit Go.MapKept
set_option maxRecDepth 1000000
set_option maxHeartbeats 4000000
noncomputable def isVb (v : Option Value) (u : Value) : Bool := match u with
  | .string s => isSb v s
  | .int .i64 n => isIb v n
  | _ => false
theorem isVb_spec {v : Option Value} {u : Value} (h : isVb v u = true) : v = some u := by
  unfold isVb at h
  split at h
  · exact isSb_spec h
  · exact isIb_spec h
  · cases h
noncomputable def allVb (c : ACells) : Nat → List Value → Bool
  | _, [] => true
  | o, x :: l => isVb (c.at o) x && allVb c (o + 1) l
theorem allVb_spec {c : ACells} : ∀ {o : Nat} {l : List Value}, allVb c o l = true → ∀ i x, l[i]? = some x → c.at (o + i) = some x
  | o, [], _, i, x, hi => by simp at hi
  | o, y :: l, h, 0, x, hi => by
    unfold allVb at h
    rw [Bool.and_eq_true] at h
    obtain rfl : y = x := by simpa using hi
    exact isVb_spec h.1
  | o, y :: l, h, i + 1, x, hi => by
    unfold allVb at h
    rw [Bool.and_eq_true] at h
    have := allVb_spec h.2 i x (by simpa using hi)
    rw [show o + (i + 1) = o + 1 + i by omega]
    exact this
noncomputable def sumFew (F : FuncId) (S : Sum) : Sum := fun f args h => bif Nat.beq f F then (match args with
  | [.slice (some ⟨b, o, none⟩) n c', .int .i64 x] => match h.get b with
    | some (.cells c) => bif (Nat.beq n 3 && Nat.ble n c') && (eqI x 5 && allVb c o itemsV) then some (.tuple #[.int .i64 2, .int .i64 0], h) else none
    | _ => none
  | _ => none) else S f args h
theorem sumFew_ok {S : Sum} (hS : SumOk Tryz.prog S) : SumOk Tryz.prog (sumFew 13 S) := by
  intro f args h v h' e
  unfold sumFew at e
  cases hf : Nat.beq f 13 with
  | false => rw [hf] at e; exact hS _ _ _ _ _ e
  | true =>
    obtain rfl := Nat.eq_of_beq_eq_true hf
    rw [hf] at e
    simp only [cond_true] at e
    split at e
    · rename_i b o n c' x
      split at e
      · rename_i c hg
        cases hc : ((Nat.beq n 3 && Nat.ble n c') && (eqI x 5 && allVb c o itemsV)) with
        | false => rw [hc] at e; cases e
        | true =>
          rw [hc] at e
          simp only [Bool.and_eq_true] at hc
          obtain ⟨⟨q0, q1⟩, q2, q3⟩ := hc
          obtain rfl := Nat.eq_of_beq_eq_true q0
          rw [eqI_eq] at q2
          obtain rfl := of_decide_eq_true q2
          have hn3 : 3 ≤ c' := Nat.le_of_ble_eq_true q1
          simp only [cond_true, Option.some.injEq, Prod.mk.injEq] at e
          obtain ⟨rfl, rfl⟩ := e
          refine ⟨⟨_, _, Tryz.func13, rfl⟩, fun θ w args' k r ha => ?_⟩
          obtain ⟨x', y', rfl, hx, hy⟩ := l2_inv ha
          cases hy
          obtain ⟨-, hbl, hor⟩ := r.obj b _ hg
          have hcr : CRel Tryz.prog θ (θ.f b) c w := hor
          have hat : ∀ (i : Nat) (v : Value), itemsV[i]? = some v → w.cell? ⟨(θ.f b).blk, i + (o + (θ.f b).sh), none⟩ = some v := fun i v hi => by
            obtain ⟨u, hu, hr⟩ := hcr.at_ (o + i) _ (allVb_spec q3 i v hi)
            have hfl : flat v = true := List.all_eq_true.1 (show itemsV.all flat = true from rfl) v (List.mem_of_getElem? hi)
            rw [flat_eq hfl hr] at hu
            rw [show i + (o + (θ.f b).sh) = o + i + (θ.f b).sh by omega]
            exact hu
          have fin : ∀ x', x' = Value.slice (some ⟨(θ.f b).blk, o + (θ.f b).sh, none⟩) 3 c' ∨ (∃ cc, 3 ≤ cc ∧ x' = Value.slice (some ⟨(θ.f b).blk, o + (θ.f b).sh, none⟩) 3 cc) → Calls Tryz.prog 13 #[x', .int .i64 5] w fun e w' => e = .returned (.tuple #[.int .i64 2, .int .i64 0]) ∧ Below w.heap.size w w' := by
            rintro x' (rfl | ⟨cc, h3, rfl⟩)
            · exact fewest_ok hn3 hbl hat
            · exact fewest_ok h3 hbl hat
          have hcon := fin x' (by
            cases hx with
            | slice _ _ => exact .inl rfl
            | sliceO _ h2 _ => exact .inr ⟨_, h2, rfl⟩)
          refine (callsIn_wide (n := k)).2 (hcon.mono ?_)
          rintro e' w' ⟨rfl, hbel⟩
          obtain ⟨p, q⟩ := r.below hbel
          exact ⟨_, θ, rfl, flat_rel rfl, p, q⟩
      · cases e
    · cases e
noncomputable def sumF : Sum := sumFew 13 sumS
theorem sumF_ok : SumOk Tryz.prog sumF := sumFew_ok sumS_ok
end Go.Proofs
end

section
namespace Go.Proofs
open Go.AM Go.RowKit
set_option maxRecDepth 1000000
noncomputable def q_h1A : List Value := [.agg #[.int .i64 40, .int .i64 10, .int .i64 820, .int .i64 820], .string ⟨#[52, 53]⟩]
noncomputable def q_h1R : Value := .tuple #[.string ⟨#[56, 50, 48]⟩, .int .i64 0]
theorem q_h1 : (callF Tryz.prog sumT 100000 99 q_h1A (hG gN gRows)).map (·.1) = some q_h1R := by kernel_rfl
end Go.Proofs
end

section
namespace Go.Proofs
open Go.AM Go.RowKit
set_option maxRecDepth 1000000
noncomputable def q_s0A : List Value := [.agg #[.int .i64 0, .int .i64 40, .int .i64 20, .int .i64 820], .int .i64 420]
noncomputable def q_s0R : Value := .string ⟨#[50, 48]⟩
theorem q_s0 : (callF Tryz.prog sumT 100000 135 q_s0A (hG gN gRows)).map (·.1) = some q_s0R := by kernel_rfl
noncomputable def q_s1A : List Value := [.agg #[.int .i64 40, .int .i64 10, .int .i64 820, .int .i64 820], .int .i64 420]
noncomputable def q_s1R : Value := .string ⟨#[49, 48]⟩
theorem q_s1 : (callF Tryz.prog sumT 100000 135 q_s1A (hG gN gRows)).map (·.1) = some q_s1R := by kernel_rfl
noncomputable def q_s2A : List Value := [.agg #[.int .i64 50, .int .i64 80, .int .i64 820, .int .i64 20], .int .i64 420]
noncomputable def q_s2R : Value := .string ⟨#[52, 48]⟩
theorem q_s2 : (callF Tryz.prog sumT 100000 135 q_s2A (hG gN gRows)).map (·.1) = some q_s2R := by kernel_rfl
noncomputable def q_s3A : List Value := [.agg #[.int .i64 0, .int .i64 40, .int .i64 20, .int .i64 820], .int .i64 820]
noncomputable def q_s3R : Value := .string ⟨#[48]⟩
theorem q_s3 : (callF Tryz.prog sumT 100000 135 q_s3A (hG gN gRows)).map (·.1) = some q_s3R := by kernel_rfl
noncomputable def q_s4A : List Value := [.agg #[.int .i64 40, .int .i64 10, .int .i64 820, .int .i64 820], .int .i64 820]
noncomputable def q_s4R : Value := .string ⟨#[49, 48]⟩
theorem q_s4 : (callF Tryz.prog sumT 100000 135 q_s4A (hG gN gRows)).map (·.1) = some q_s4R := by kernel_rfl
noncomputable def q_s5A : List Value := [.agg #[.int .i64 50, .int .i64 80, .int .i64 820, .int .i64 20], .int .i64 820]
noncomputable def q_s5R : Value := .string ⟨#[48]⟩
theorem q_s5 : (callF Tryz.prog sumT 100000 135 q_s5A (hG gN gRows)).map (·.1) = some q_s5R := by kernel_rfl
end Go.Proofs
end

section
namespace Go.Proofs
open Go.AM Go.RowKit
set_option maxRecDepth 1000000
noncomputable def q_r0A : List Value := [.agg #[.int .i64 0, .int .i64 40, .int .i64 20, .int .i64 820]]
noncomputable def q_r0R : Value := .string ⟨#[50, 48]⟩
theorem q_r0 : (callF Tryz.prog sumT 100000 136 q_r0A (hG gN gRows)).map (·.1) = some q_r0R := by kernel_rfl
noncomputable def q_r1A : List Value := [.agg #[.int .i64 40, .int .i64 10, .int .i64 820, .int .i64 820]]
noncomputable def q_r1R : Value := .string ⟨#[48]⟩
theorem q_r1 : (callF Tryz.prog sumT 100000 136 q_r1A (hG gN gRows)).map (·.1) = some q_r1R := by kernel_rfl
noncomputable def q_r2A : List Value := [.agg #[.int .i64 50, .int .i64 80, .int .i64 820, .int .i64 20]]
noncomputable def q_r2R : Value := .string ⟨#[49, 48]⟩
theorem q_r2 : (callF Tryz.prog sumT 100000 136 q_r2A (hG gN gRows)).map (·.1) = some q_r2R := by kernel_rfl
noncomputable def q_a0A : List Value := [.string ⟨#[48]⟩, .string ⟨#[50, 48]⟩]
noncomputable def q_a0R : Value := .tuple #[.string ⟨#[50, 48]⟩, .int .i64 0]
theorem q_a0 : (callF Tryz.prog sumT 100000 134 q_a0A (hG gN gRows)).map (·.1) = some q_a0R := by kernel_rfl
noncomputable def q_a1A : List Value := [.string ⟨#[50, 48]⟩, .string ⟨#[49, 48]⟩]
noncomputable def q_a1R : Value := .tuple #[.string ⟨#[51, 48]⟩, .int .i64 0]
theorem q_a1 : (callF Tryz.prog sumT 100000 134 q_a1A (hG gN gRows)).map (·.1) = some q_a1R := by kernel_rfl
noncomputable def q_a2A : List Value := [.string ⟨#[51, 48]⟩, .string ⟨#[52, 48]⟩]
noncomputable def q_a2R : Value := .tuple #[.string ⟨#[55, 48]⟩, .int .i64 0]
theorem q_a2 : (callF Tryz.prog sumT 100000 134 q_a2A (hG gN gRows)).map (·.1) = some q_a2R := by kernel_rfl
noncomputable def q_a3A : List Value := [.string ⟨#[48]⟩, .string ⟨#[48]⟩]
noncomputable def q_a3R : Value := .tuple #[.string ⟨#[48]⟩, .int .i64 0]
theorem q_a3 : (callF Tryz.prog sumT 100000 134 q_a3A (hG gN gRows)).map (·.1) = some q_a3R := by kernel_rfl
noncomputable def q_a4A : List Value := [.string ⟨#[48]⟩, .string ⟨#[49, 48]⟩]
noncomputable def q_a4R : Value := .tuple #[.string ⟨#[49, 48]⟩, .int .i64 0]
theorem q_a4 : (callF Tryz.prog sumT 100000 134 q_a4A (hG gN gRows)).map (·.1) = some q_a4R := by kernel_rfl
noncomputable def q_a5A : List Value := [.string ⟨#[49, 48]⟩, .string ⟨#[48]⟩]
noncomputable def q_a5R : Value := .tuple #[.string ⟨#[49, 48]⟩, .int .i64 0]
theorem q_a5 : (callF Tryz.prog sumT 100000 134 q_a5A (hG gN gRows)).map (·.1) = some q_a5R := by kernel_rfl
end Go.Proofs
end

section
/- The fixed examples of chapter 9 hold, from any world in which the table of powers of ten is as it was laid. -/
namespace Go.Proofs
open Go.AM Go.RowKit
set_option maxRecDepth 1000000
noncomputable def sum_h1 : Sum := memoG 99 q_h1A q_h1R gN gRows sumF
theorem sum_h1_ok : SumOk Tryz.prog sum_h1 := memoG_of prog_names prog_mixed sumF_ok sumT_ok (by kernel_rfl) (by kernel_rfl) gRows_flat q_h1
noncomputable def sum_s0 : Sum := memoG 135 q_s0A q_s0R gN gRows sum_h1
theorem sum_s0_ok : SumOk Tryz.prog sum_s0 := memoG_of prog_names prog_mixed sum_h1_ok sumT_ok (by kernel_rfl) (by kernel_rfl) gRows_flat q_s0
noncomputable def sum_s1 : Sum := memoG 135 q_s1A q_s1R gN gRows sum_s0
theorem sum_s1_ok : SumOk Tryz.prog sum_s1 := memoG_of prog_names prog_mixed sum_s0_ok sumT_ok (by kernel_rfl) (by kernel_rfl) gRows_flat q_s1
noncomputable def sum_s2 : Sum := memoG 135 q_s2A q_s2R gN gRows sum_s1
theorem sum_s2_ok : SumOk Tryz.prog sum_s2 := memoG_of prog_names prog_mixed sum_s1_ok sumT_ok (by kernel_rfl) (by kernel_rfl) gRows_flat q_s2
noncomputable def sum_s3 : Sum := memoG 135 q_s3A q_s3R gN gRows sum_s2
theorem sum_s3_ok : SumOk Tryz.prog sum_s3 := memoG_of prog_names prog_mixed sum_s2_ok sumT_ok (by kernel_rfl) (by kernel_rfl) gRows_flat q_s3
noncomputable def sum_s4 : Sum := memoG 135 q_s4A q_s4R gN gRows sum_s3
theorem sum_s4_ok : SumOk Tryz.prog sum_s4 := memoG_of prog_names prog_mixed sum_s3_ok sumT_ok (by kernel_rfl) (by kernel_rfl) gRows_flat q_s4
noncomputable def sum_s5 : Sum := memoG 135 q_s5A q_s5R gN gRows sum_s4
theorem sum_s5_ok : SumOk Tryz.prog sum_s5 := memoG_of prog_names prog_mixed sum_s4_ok sumT_ok (by kernel_rfl) (by kernel_rfl) gRows_flat q_s5
noncomputable def sum_r0 : Sum := memoG 136 q_r0A q_r0R gN gRows sum_s5
theorem sum_r0_ok : SumOk Tryz.prog sum_r0 := memoG_of prog_names prog_mixed sum_s5_ok sumT_ok (by kernel_rfl) (by kernel_rfl) gRows_flat q_r0
noncomputable def sum_r1 : Sum := memoG 136 q_r1A q_r1R gN gRows sum_r0
theorem sum_r1_ok : SumOk Tryz.prog sum_r1 := memoG_of prog_names prog_mixed sum_r0_ok sumT_ok (by kernel_rfl) (by kernel_rfl) gRows_flat q_r1
noncomputable def sum_r2 : Sum := memoG 136 q_r2A q_r2R gN gRows sum_r1
theorem sum_r2_ok : SumOk Tryz.prog sum_r2 := memoG_of prog_names prog_mixed sum_r1_ok sumT_ok (by kernel_rfl) (by kernel_rfl) gRows_flat q_r2
noncomputable def sum_a0 : Sum := memoG 134 q_a0A q_a0R gN gRows sum_r2
theorem sum_a0_ok : SumOk Tryz.prog sum_a0 := memoG_of prog_names prog_mixed sum_r2_ok sumT_ok (by kernel_rfl) (by kernel_rfl) gRows_flat q_a0
noncomputable def sum_a1 : Sum := memoG 134 q_a1A q_a1R gN gRows sum_a0
theorem sum_a1_ok : SumOk Tryz.prog sum_a1 := memoG_of prog_names prog_mixed sum_a0_ok sumT_ok (by kernel_rfl) (by kernel_rfl) gRows_flat q_a1
noncomputable def sum_a2 : Sum := memoG 134 q_a2A q_a2R gN gRows sum_a1
theorem sum_a2_ok : SumOk Tryz.prog sum_a2 := memoG_of prog_names prog_mixed sum_a1_ok sumT_ok (by kernel_rfl) (by kernel_rfl) gRows_flat q_a2
noncomputable def sum_a3 : Sum := memoG 134 q_a3A q_a3R gN gRows sum_a2
theorem sum_a3_ok : SumOk Tryz.prog sum_a3 := memoG_of prog_names prog_mixed sum_a2_ok sumT_ok (by kernel_rfl) (by kernel_rfl) gRows_flat q_a3
noncomputable def sum_a4 : Sum := memoG 134 q_a4A q_a4R gN gRows sum_a3
theorem sum_a4_ok : SumOk Tryz.prog sum_a4 := memoG_of prog_names prog_mixed sum_a3_ok sumT_ok (by kernel_rfl) (by kernel_rfl) gRows_flat q_a4
noncomputable def sum_a5 : Sum := memoG 134 q_a5A q_a5R gN gRows sum_a4
theorem sum_a5_ok : SumOk Tryz.prog sum_a5 := memoG_of prog_names prog_mixed sum_a4_ok sumT_ok (by kernel_rfl) (by kernel_rfl) gRows_flat q_a5
theorem awake9_runs : (callF Tryz.prog sum_a5 100000 10 [] (hG gN gRows)).map (·.1) = some (.bool true) := by kernel_rfl
theorem awake9_ok (w : World) (hw : GOk gN gRows w) : Calls Tryz.prog 10 #[] w fun e w' => e = .returned (.bool true) ∧ Below w.heap.size w w' :=
  closed_flatG prog_names prog_mixed sum_a5_ok hw awake9_runs rfl (by kernel_rfl)
end Go.Proofs
end
