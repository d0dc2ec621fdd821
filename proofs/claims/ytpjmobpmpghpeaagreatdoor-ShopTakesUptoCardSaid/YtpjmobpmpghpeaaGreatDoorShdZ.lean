/- TopShadeTabs: a load beside a chain of operations, in any order. -/
import Derived.Test.YtpjmobpmpghpeaaGreatDoorShdY
namespace Go.Proofs
open Go.RowKit Go.MapKept
set_option maxHeartbeats 16000000
set_option maxRecDepth 1000000
theorem put_same (a : Act) (i : Nat) (v : Value) (h : i < a.tmps.size) : (a.put (some i) v).tmps.getD i undef = v := by
  unfold Act.put
  simp [h]
theorem put_other (a : Act) (i j : Nat) (v : Value) (h : i ≠ j) : (a.put (some i) v).tmps.getD j undef = a.tmps.getD j undef := by
  unfold Act.put
  simp [Array.getElem?_setIfInBounds_ne h]
theorem put_size (a : Act) (i : Nat) (v : Value) : (a.put (some i) v).tmps.size = a.tmps.size := by
  unfold Act.put
  simp
theorem flo9 {md : Region.Mode} {ops : Array Oper} {Q : Exit → Act → World → Prop} {S : World → Prop} {o1 o12 : Oper} (W1 : World) (a : Act) (u  : Value) (t : TabT) (kS : ∀ V, Below W1.heap.size W1 V → S V) (_hsz : 200 < a.tmps.size)
    (h1 : ops[1]? = some o1) (g1 : o1.guard = none) (d1 : o1.dst = some 65) (e1 : ∀ (a2 : Act) (w : World), Below W1.heap.size W1 w → a2.tmps.getD 64 undef = a.tmps.getD 64 undef → (execOp a2.eval o1).run Tryz.prog w = .ok (.value u) w)
    (h12 : ops[12]? = some o12) (g12 : o12.guard = none) (d12 : o12.dst = some 76) (e12 : ∀ (a2 : Act) (w : World), a2.tmps.getD 75 undef = a.tmps.getD 75 undef → (execOp a2.eval o12).run Tryz.prog w = .ok (.value (.slice (some ⟨w.heap.size, 0, none⟩) 1 1)) (w.alloc (.cells (encT t).toArray 76)))
    (r00 : Region.ready md ops #[true, false, true, true, true, true, true, true, true, true, true, true, false, false, false, false] = [1, 12])
    (r01 : Region.ready md ops #[true, false, true, true, true, true, true, true, true, true, true, true, true, false, false, false] = [1])
    (r10 : Region.ready md ops #[true, true, true, true, true, true, true, true, true, true, true, true, false, false, false, false] = [12])
    (fin : ∀ (g : Nat) (W : World), RowK W 76 g (encT t) → W1.heap.size ≤ g → Below W1.heap.size W1 W → wpAnyH Tryz.prog md ops Q S 3 #[true, true, true, true, true, true, true, true, true, true, true, true, true, false, false, false] ((a.put (some 65) u).put (some 76) (.slice (some ⟨g, 0, none⟩) 1 1)) W)
    (W : World) (hW : Below W1.heap.size W1 W) : wpAnyH Tryz.prog md ops Q S 5 #[true, false, true, true, true, true, true, true, true, true, true, true, false, false, false, false] a W := by
  have st01 : ∀ (g : Nat) (W : World), RowK W 76 g (encT t) → W1.heap.size ≤ g → Below W1.heap.size W1 W → wpAnyH Tryz.prog md ops Q S 4 #[true, false, true, true, true, true, true, true, true, true, true, true, true, false, false, false] (a.put (some 76) (.slice (some ⟨g, 0, none⟩) 1 1)) W := by
    intro g W hR hg hW
    refine wpAnyH_ready r01 (by simp) ?_
    refine AllReadyH.cons h1 (fun K hK => ?_) AllReadyH.nil
    · rw [if_pos (wanted_noneS g1)]
      unfold Oper.wp
      rw [e1 _ _ hW (by rw [put_other _ 76 64 _ (by decide)])]
      show K (Act.put _ o1.dst _) _
      rw [d1]
      refine hK.out _ _ (kS _ hW) (fun _ => ?_)
      rw [put_comm _ 76 65 (by decide)]
      exact fin _ _ hR hg hW
  have st10 : ∀ (W : World), Below W1.heap.size W1 W → wpAnyH Tryz.prog md ops Q S 4 #[true, true, true, true, true, true, true, true, true, true, true, true, false, false, false, false] (a.put (some 65) u) W := by
    intro W hW
    refine wpAnyH_ready r10 (by simp) ?_
    refine AllReadyH.cons h12 (fun K hK => ?_) AllReadyH.nil
    · rw [if_pos (wanted_noneS g12)]
      unfold Oper.wp
      rw [e12 _ _ (by rw [put_other _ 65 75 _ (by decide)])]
      show K (Act.put _ o12.dst _) _
      rw [d12]
      have hW2 := hW.alloc hW.size (.cells (encT t).toArray 76)
      exact hK.out _ _ (kS _ hW2) (fun _ => fin _ _ (heap_alloc_new W _) hW.size hW2)
  refine wpAnyH_ready r00 (by simp) ?_
  refine AllReadyH.cons h1 (fun K hK => ?_) (AllReadyH.cons h12 (fun K hK => ?_) AllReadyH.nil)
  · rw [if_pos (wanted_noneS g1)]
    unfold Oper.wp
    rw [e1 _ _ hW (by rfl)]
    show K (Act.put _ o1.dst _) _
    rw [d1]
    refine hK.out _ _ (kS _ hW) (fun _ => ?_)
    exact st10 _ hW
  · rw [if_pos (wanted_noneS g12)]
    unfold Oper.wp
    rw [e12 _ _ (by rfl)]
    show K (Act.put _ o12.dst _) _
    rw [d12]
    have hW2 := hW.alloc hW.size (.cells (encT t).toArray 76)
    exact hK.out _ _ (kS _ hW2) (fun _ => st01 _ _ (heap_alloc_new W _) hW.size hW2)
theorem flo10 {md : Region.Mode} {ops : Array Oper} {Q : Exit → Act → World → Prop} {S : World → Prop} {o1 o14 o15 o16 : Oper} (W1 : World) (a : Act) (u v14 v15 : Value) (t : TabT) (kS : ∀ V, Below W1.heap.size W1 V → S V) (hsz : 200 < a.tmps.size)
    (h1 : ops[1]? = some o1) (g1 : o1.guard = none) (d1 : o1.dst = some 80) (e1 : ∀ (a2 : Act) (w : World), Below W1.heap.size W1 w → a2.tmps.getD 79 undef = a.tmps.getD 79 undef → (execOp a2.eval o1).run Tryz.prog w = .ok (.value u) w)
    (h14 : ops[14]? = some o14) (g14 : o14.guard = none) (e14 : ∀ (a2 : Act) (w : World) (K : Act → World → Prop), a2.tmps.getD 92 undef = a.tmps.getD 92 undef → (∀ w2, Below w.heap.size w w2 → K (a2.put (some 93) v14) w2) → Oper.wp Tryz.prog o14 a2 w K Q)
    (h15 : ops[15]? = some o15) (g15 : o15.guard = none) (d15 : o15.dst = some 94) (e15 : ∀ (a2 : Act) (w : World), a2.tmps.getD 86 undef = a.tmps.getD 86 undef → a2.tmps.getD 93 undef = v14 → (execOp a2.eval o15).run Tryz.prog w = .ok (.value v15) w)
    (h16 : ops[16]? = some o16) (g16 : o16.guard = none) (d16 : o16.dst = some 95) (e16 : ∀ (a2 : Act) (w : World), a2.tmps.getD 94 undef = v15 → (execOp a2.eval o16).run Tryz.prog w = .ok (.value (.slice (some ⟨w.heap.size, 0, none⟩) 1 1)) (w.alloc (.cells (encT t).toArray 76)))
    (r00 : Region.ready md ops #[true, false, true, true, true, true, true, true, true, true, true, true, true, true, false, false, false, false, false, false] = [1, 14])
    (r01 : Region.ready md ops #[true, false, true, true, true, true, true, true, true, true, true, true, true, true, true, false, false, false, false, false] = [1, 15])
    (r02 : Region.ready md ops #[true, false, true, true, true, true, true, true, true, true, true, true, true, true, true, true, false, false, false, false] = [1, 16])
    (r03 : Region.ready md ops #[true, false, true, true, true, true, true, true, true, true, true, true, true, true, true, true, true, false, false, false] = [1])
    (r10 : Region.ready md ops #[true, true, true, true, true, true, true, true, true, true, true, true, true, true, false, false, false, false, false, false] = [14])
    (r11 : Region.ready md ops #[true, true, true, true, true, true, true, true, true, true, true, true, true, true, true, false, false, false, false, false] = [15])
    (r12 : Region.ready md ops #[true, true, true, true, true, true, true, true, true, true, true, true, true, true, true, true, false, false, false, false] = [16])
    (fin : ∀ (g : Nat) (W : World), RowK W 76 g (encT t) → W1.heap.size ≤ g → Below W1.heap.size W1 W → wpAnyH Tryz.prog md ops Q S 3 #[true, true, true, true, true, true, true, true, true, true, true, true, true, true, true, true, true, false, false, false] ((((a.put (some 80) u).put (some 93) v14).put (some 94) v15).put (some 95) (.slice (some ⟨g, 0, none⟩) 1 1)) W)
    (W : World) (hW : Below W1.heap.size W1 W) : wpAnyH Tryz.prog md ops Q S 7 #[true, false, true, true, true, true, true, true, true, true, true, true, true, true, false, false, false, false, false, false] a W := by
  have st03 : ∀ (g : Nat) (W : World), RowK W 76 g (encT t) → W1.heap.size ≤ g → Below W1.heap.size W1 W → wpAnyH Tryz.prog md ops Q S 4 #[true, false, true, true, true, true, true, true, true, true, true, true, true, true, true, true, true, false, false, false] (((a.put (some 93) v14).put (some 94) v15).put (some 95) (.slice (some ⟨g, 0, none⟩) 1 1)) W := by
    intro g W hR hg hW
    refine wpAnyH_ready r03 (by simp) ?_
    refine AllReadyH.cons h1 (fun K hK => ?_) AllReadyH.nil
    · rw [if_pos (wanted_noneS g1)]
      unfold Oper.wp
      rw [e1 _ _ hW (by rw [put_other _ 95 79 _ (by decide)]; rw [put_other _ 94 79 _ (by decide)]; rw [put_other _ 93 79 _ (by decide)])]
      show K (Act.put _ o1.dst _) _
      rw [d1]
      refine hK.out _ _ (kS _ hW) (fun _ => ?_)
      rw [put_comm _ 95 80 (by decide)]
      rw [put_comm _ 94 80 (by decide)]
      rw [put_comm _ 93 80 (by decide)]
      exact fin _ _ hR hg hW
  have st12 : ∀ (W : World), Below W1.heap.size W1 W → wpAnyH Tryz.prog md ops Q S 4 #[true, true, true, true, true, true, true, true, true, true, true, true, true, true, true, true, false, false, false, false] (((a.put (some 80) u).put (some 93) v14).put (some 94) v15) W := by
    intro W hW
    refine wpAnyH_ready r12 (by simp) ?_
    refine AllReadyH.cons h16 (fun K hK => ?_) AllReadyH.nil
    · rw [if_pos (wanted_noneS g16)]
      unfold Oper.wp
      rw [e16 _ _ (by rw [put_same _ 94 _ (by (try simp only [put_size]); omega)])]
      show K (Act.put _ o16.dst _) _
      rw [d16]
      have hW2 := hW.alloc hW.size (.cells (encT t).toArray 76)
      exact hK.out _ _ (kS _ hW2) (fun _ => fin _ _ (heap_alloc_new W _) hW.size hW2)
  have st02 : ∀ (W : World), Below W1.heap.size W1 W → wpAnyH Tryz.prog md ops Q S 5 #[true, false, true, true, true, true, true, true, true, true, true, true, true, true, true, true, false, false, false, false] ((a.put (some 93) v14).put (some 94) v15) W := by
    intro W hW
    refine wpAnyH_ready r02 (by simp) ?_
    refine AllReadyH.cons h1 (fun K hK => ?_) (AllReadyH.cons h16 (fun K hK => ?_) AllReadyH.nil)
    · rw [if_pos (wanted_noneS g1)]
      unfold Oper.wp
      rw [e1 _ _ hW (by rw [put_other _ 94 79 _ (by decide)]; rw [put_other _ 93 79 _ (by decide)])]
      show K (Act.put _ o1.dst _) _
      rw [d1]
      refine hK.out _ _ (kS _ hW) (fun _ => ?_)
      rw [put_comm _ 94 80 (by decide)]
      rw [put_comm _ 93 80 (by decide)]
      exact st12 _ hW
    · rw [if_pos (wanted_noneS g16)]
      unfold Oper.wp
      rw [e16 _ _ (by rw [put_same _ 94 _ (by (try simp only [put_size]); omega)])]
      show K (Act.put _ o16.dst _) _
      rw [d16]
      have hW2 := hW.alloc hW.size (.cells (encT t).toArray 76)
      exact hK.out _ _ (kS _ hW2) (fun _ => st03 _ _ (heap_alloc_new W _) hW.size hW2)
  have st11 : ∀ (W : World), Below W1.heap.size W1 W → wpAnyH Tryz.prog md ops Q S 5 #[true, true, true, true, true, true, true, true, true, true, true, true, true, true, true, false, false, false, false, false] ((a.put (some 80) u).put (some 93) v14) W := by
    intro W hW
    refine wpAnyH_ready r11 (by simp) ?_
    refine AllReadyH.cons h15 (fun K hK => ?_) AllReadyH.nil
    · rw [if_pos (wanted_noneS g15)]
      unfold Oper.wp
      rw [e15 _ _ (by rw [put_other _ 93 86 _ (by decide)]; rw [put_other _ 80 86 _ (by decide)]) (by rw [put_same _ 93 _ (by (try simp only [put_size]); omega)])]
      show K (Act.put _ o15.dst _) _
      rw [d15]
      exact hK.out _ _ (kS _ hW) (fun _ => st12 _ hW)
  have st01 : ∀ (W : World), Below W1.heap.size W1 W → wpAnyH Tryz.prog md ops Q S 6 #[true, false, true, true, true, true, true, true, true, true, true, true, true, true, true, false, false, false, false, false] (a.put (some 93) v14) W := by
    intro W hW
    refine wpAnyH_ready r01 (by simp) ?_
    refine AllReadyH.cons h1 (fun K hK => ?_) (AllReadyH.cons h15 (fun K hK => ?_) AllReadyH.nil)
    · rw [if_pos (wanted_noneS g1)]
      unfold Oper.wp
      rw [e1 _ _ hW (by rw [put_other _ 93 79 _ (by decide)])]
      show K (Act.put _ o1.dst _) _
      rw [d1]
      refine hK.out _ _ (kS _ hW) (fun _ => ?_)
      rw [put_comm _ 93 80 (by decide)]
      exact st11 _ hW
    · rw [if_pos (wanted_noneS g15)]
      unfold Oper.wp
      rw [e15 _ _ (by rw [put_other _ 93 86 _ (by decide)]) (by rw [put_same _ 93 _ (by (try simp only [put_size]); omega)])]
      show K (Act.put _ o15.dst _) _
      rw [d15]
      exact hK.out _ _ (kS _ hW) (fun _ => st02 _ hW)
  have st10 : ∀ (W : World), Below W1.heap.size W1 W → wpAnyH Tryz.prog md ops Q S 6 #[true, true, true, true, true, true, true, true, true, true, true, true, true, true, false, false, false, false, false, false] (a.put (some 80) u) W := by
    intro W hW
    refine wpAnyH_ready r10 (by simp) ?_
    refine AllReadyH.cons h14 (fun K hK => ?_) AllReadyH.nil
    · rw [if_pos (wanted_noneS g14)]
      refine e14 _ _ _ (by rw [put_other _ 80 92 _ (by decide)]) (fun w2 hB2 => ?_)
      have hW2 := hW.trans (hB2.mono hW.size)
      exact hK.out _ _ (kS _ hW2) (fun _ => st11 _ hW2)
  refine wpAnyH_ready r00 (by simp) ?_
  refine AllReadyH.cons h1 (fun K hK => ?_) (AllReadyH.cons h14 (fun K hK => ?_) AllReadyH.nil)
  · rw [if_pos (wanted_noneS g1)]
    unfold Oper.wp
    rw [e1 _ _ hW (by rfl)]
    show K (Act.put _ o1.dst _) _
    rw [d1]
    refine hK.out _ _ (kS _ hW) (fun _ => ?_)
    exact st10 _ hW
  · rw [if_pos (wanted_noneS g14)]
    refine e14 _ _ _ (by rfl) (fun w2 hB2 => ?_)
    have hW2 := hW.trans (hB2.mono hW.size)
    exact hK.out _ _ (kS _ hW2) (fun _ => st01 _ hW2)
end Go.Proofs
