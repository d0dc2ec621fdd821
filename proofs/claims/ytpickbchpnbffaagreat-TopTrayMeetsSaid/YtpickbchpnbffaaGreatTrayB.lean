import Derived.Test.YtpickbchpnbffaaGreatBitD
import Derived.Test.YtpickbchpnbffaaGreatHeldF
/- cusptop.trayBite: three copies, made in any order. -/
namespace Go.Proofs
open Go.RowKit
set_option maxHeartbeats 16000000
set_option maxRecDepth 1000000
/-- Three rows of their own, apart from each other. -/
structure TrS (W0 : World) (a b c : Value) (La Lb Lc : List Cel) (W : World) : Prop where
  oa : Own W W0.heap.size a La
  ob : Own W W0.heap.size b Lb
  oc : Own W W0.heap.size c Lc
  ab : ∀ g, a.ownBlock = some g → b.ownBlock ≠ some g
  bc : ∀ g, b.ownBlock = some g → c.ownBlock ≠ some g
  ca : ∀ g, c.ownBlock = some g → a.ownBlock ≠ some g
  keep : Below W0.heap.size W0 W
theorem TrS.rot {W0 W : World} {a b c : Value} {La Lb Lc : List Cel} (h : TrS W0 a b c La Lb Lc W) : TrS W0 b c a Lb Lc La W := ⟨h.ob, h.oc, h.oa, h.bc, h.ca, h.ab, h.keep⟩
theorem TrS.build1 {W0 W : World} {a b c : Value} {La Lb Lc : List Cel} (h : TrS W0 a b c La Lb Lc W) : TrS W0 (.slice (some ⟨W.heap.size, 0, none⟩) 0 0) b c [] Lb Lc (W.alloc (.cells #[] 34)) := by
  have hE : Own (W.alloc (.cells #[] 34)) W.heap.size (.slice (some ⟨W.heap.size, 0, none⟩) 0 0) [] := World.ownsRow_lit W #[] 0 (Nat.le_refl _) (Nat.zero_le _) rfl
  refine ⟨hE.mono h.keep.size, h.ob.alloc _, h.oc.alloc _, fun g e e' => ?_, h.bc, fun g e e' => ?_, h.keep.alloc h.keep.size _⟩
  · have := (h.ob.ge e').2
    obtain rfl : W.heap.size = g := by simpa [Value.ownBlock] using e
    omega
  · have := (h.oc.ge e).2
    obtain rfl : W.heap.size = g := by simpa [Value.ownBlock] using e'
    omega
theorem TrS.app1 {W0 W W' : World} {a b c : Value} {La Lb Lc : List Cel} {L : List Cel} {g n cap : Nat} (h : TrS W0 a b c La Lb Lc W) (hown : Own W' W0.heap.size (.slice (some ⟨g, 0, none⟩) n cap) L) (hg : W.grownBy W' a.ownBlock) (hv : a.ownBlock = some g ∨ g = W.heap.size) :
    TrS W0 (.slice (some ⟨g, 0, none⟩) n cap) b c L Lb Lc W' := by
  have hblk : ∀ k, k < W.heap.size → a.ownBlock ≠ some k → W'.heap[k]? = W.heap[k]? := fun k hk hne => hg.block k hk (fun e => hne e.symm)
  refine ⟨hown, h.ob.same fun g' e => hblk g' (h.ob.ge e).2 (fun e' => h.ab g' e' e), h.oc.same fun g' e => hblk g' (h.oc.ge e).2 (fun e' => h.ca g' e e'), fun g' e e' => ?_, h.bc, fun g' e e' => ?_, ?_⟩
  · obtain rfl : g = g' := by simpa [Value.ownBlock] using e
    rcases hv with hv | rfl
    · exact h.ab g hv e'
    · have := (h.ob.ge e').2
      omega
  · obtain rfl : g = g' := by simpa [Value.ownBlock] using e'
    rcases hv with hv | rfl
    · exact h.ca g e hv
    · have := (h.oc.ge e).2
      omega
  · have hs := h.keep.size
    exact ⟨hg.os.trans h.keep.os, hg.tape.trans h.keep.tape, hg.output.trans h.keep.output, Nat.le_trans hs hg.size, fun k hk => (hblk k (by omega) fun e => by have := (h.oa.ge e).1; omega).trans (h.keep.block k hk)⟩
theorem TrS.build2 {W0 W : World} {a b c : Value} {La Lb Lc : List Cel} (h : TrS W0 a b c La Lb Lc W) : TrS W0 a (.slice (some ⟨W.heap.size, 0, none⟩) 0 0) c La [] Lc (W.alloc (.cells #[] 34)) := h.rot.build1.rot.rot
theorem TrS.build3 {W0 W : World} {a b c : Value} {La Lb Lc : List Cel} (h : TrS W0 a b c La Lb Lc W) : TrS W0 a b (.slice (some ⟨W.heap.size, 0, none⟩) 0 0) La Lb [] (W.alloc (.cells #[] 34)) := h.rot.rot.build1.rot
theorem TrS.app2 {W0 W W' : World} {a b c : Value} {La Lb Lc : List Cel} {L : List Cel} {g n cap : Nat} (h : TrS W0 a b c La Lb Lc W) (hown : Own W' W0.heap.size (.slice (some ⟨g, 0, none⟩) n cap) L) (hg : W.grownBy W' b.ownBlock) (hv : b.ownBlock = some g ∨ g = W.heap.size) :
    TrS W0 a (.slice (some ⟨g, 0, none⟩) n cap) c La L Lc W' := (h.rot.app1 hown hg hv).rot.rot
theorem TrS.app3 {W0 W W' : World} {a b c : Value} {La Lb Lc : List Cel} {L : List Cel} {g n cap : Nat} (h : TrS W0 a b c La Lb Lc W) (hown : Own W' W0.heap.size (.slice (some ⟨g, 0, none⟩) n cap) L) (hg : W.grownBy W' c.ownBlock) (hv : c.ownBlock = some g ∨ g = W.heap.size) :
    TrS W0 a b (.slice (some ⟨g, 0, none⟩) n cap) La Lb L W' := (h.rot.rot.app1 hown hg hv).rot
/-- append of some cells to an empty row in a region that draws its order: where the new row lies. -/
theorem step_append_tr {w : World} {ops : Array Oper} {o : Oper} {a : Act} {K : Act → World → Prop} {Q : Exit → Act → World → Prop} {E : Prop} (hgd : o.guard = none) (s x : Operand)
    (ho : o.op = .call { callee := .builtin .append, args := #[s, x], argTypes := #[22, 22] }) (B : Nat) (hB : B ≤ w.heap.size) (v : Value) (hs : a.eval s = v) (hown : Own w B v [])
    (vx : Value) (m : List Cel) (hx : a.eval x = vx) (hm : Sl w vx m) (h0 : 0 < m.length) (hn : m.length ≤ 1000000)
    (h : ∀ g cap w', Own w' B (.slice (some ⟨g, 0, none⟩) m.length cap) m → w.grownBy w' v.ownBlock → (v.ownBlock = some g ∨ g = w.heap.size) → K (a.put o.dst (.slice (some ⟨g, 0, none⟩) m.length cap)) w') : if Region.wanted o (yielded ops a.tmps) = true then Oper.wp Tryz.prog o a w K Q else E := by
  obtain ⟨j0, hj, hy0, hy1, hy2⟩ := info_parts (P := Tryz.prog) (e := 34) (z := .agg #[.int .i64 0, .int .i64 0, .int .i64 0]) (size := 3) (bytes := 24) (by kernel_rfl)
  rcases hm with ⟨rfl, rfl⟩ | ⟨ad, cap, rfl, hm⟩
  · exact absurd h0 (Nat.lt_irrefl 0)
  · refine step_append_lies w hgd s x _ ho B 34 j0 _ 3 24 Tryz.underlying22 hj hy0 hy1 hy2 rfl (by decide) v 0 (flatC []) hs hown ad m.length cap (flatC m) hx (flatC_len3 m) (sl_cells hm) flatC_one3 h0 (by unfold maxLen; omega) (by omega) hB _ rfl fun g cap w' h1 h2 h3 _ => ?_
    have h4 : Own w' B (.slice (some ⟨g, 0, none⟩) (0 + m.length) cap) m := own_of h1 (by simp) (by simp [flatC])
    rw [Nat.zero_add] at h4 ⊢
    exact h g cap w' h4 h2 h3

theorem wanted_none {o : Oper} {ops : Array Oper} {t : Array Value} (h : o.guard = none) : Region.wanted o (yielded ops t) = true := by
  simp [Region.wanted, h]
/-- Three empty rows are made and filled, in any order. -/
theorem tray_region {md : Region.Mode} {ops : Array Oper} {Q : Exit → Act → World → Prop} {S : World → Prop} {o0 o3 o4 o7 o8 o11 : Oper} (W0 : World) (vu vl vp x0 x1 x2 x4 x8 x12 : Value) (u l p : List Cel) (kS : ∀ V, Below W0.heap.size W0 V → S V)
    (kU : ∀ V, Below W0.heap.size W0 V → Sl V vu u) (kL : ∀ V, Below W0.heap.size W0 V → Sl V vl l) (kP : ∀ V, Below W0.heap.size W0 V → Sl V vp p) (nu : 0 < u.length) (nl : 0 < l.length) (np : 0 < p.length) (mu : u.length ≤ 4096) (ml : l.length ≤ 4096) (mp : p.length ≤ 4096)
    (h0 : ops[0]? = some o0) (g0 : o0.guard = none) (d0 : o0.dst = some 3) (e0 : ∀ (a : Act) (w : World), (execOp a.eval o0).run Tryz.prog w = .ok (.value (.slice (some ⟨w.heap.size, 0, none⟩) 0 0)) (w.alloc (.cells #[] 34)))
    (h4 : ops[4]? = some o4) (g4 : o4.guard = none) (d4 : o4.dst = some 7) (e4 : ∀ (a : Act) (w : World), (execOp a.eval o4).run Tryz.prog w = .ok (.value (.slice (some ⟨w.heap.size, 0, none⟩) 0 0)) (w.alloc (.cells #[] 34)))
    (h8 : ops[8]? = some o8) (g8 : o8.guard = none) (d8 : o8.dst = some 11) (e8 : ∀ (a : Act) (w : World), (execOp a.eval o8).run Tryz.prog w = .ok (.value (.slice (some ⟨w.heap.size, 0, none⟩) 0 0)) (w.alloc (.cells #[] 34)))
    (h3 : ops[3]? = some o3) (g3 : o3.guard = none) (d3 : o3.dst = some 6) (e3 : o3.op = .call { callee := .builtin .append, args := #[.tmp 3, .tmp 5], argTypes := #[22, 22] })
    (h7 : ops[7]? = some o7) (g7 : o7.guard = none) (d7 : o7.dst = some 10) (e7 : o7.op = .call { callee := .builtin .append, args := #[.tmp 7, .tmp 9], argTypes := #[22, 22] })
    (h11 : ops[11]? = some o11) (g11 : o11.guard = none) (d11 : o11.dst = some 14) (e11 : o11.op = .call { callee := .builtin .append, args := #[.tmp 11, .tmp 13], argTypes := #[22, 22] })
    (rs000 : Region.ready md ops #[false, true, true, false, false, true, true, false, false, true, true, false, false, false] = [0, 4, 8])
    (rs001 : Region.ready md ops #[false, true, true, false, false, true, true, false, true, true, true, false, false, false] = [0, 4])
    (rs010 : Region.ready md ops #[false, true, true, false, true, true, true, false, false, true, true, false, false, false] = [0, 8])
    (rs011 : Region.ready md ops #[false, true, true, false, true, true, true, false, true, true, true, false, false, false] = [0])
    (rs100 : Region.ready md ops #[true, true, true, false, false, true, true, false, false, true, true, false, false, false] = [3, 4, 8])
    (rs101 : Region.ready md ops #[true, true, true, false, false, true, true, false, true, true, true, false, false, false] = [3, 4])
    (rs110 : Region.ready md ops #[true, true, true, false, true, true, true, false, false, true, true, false, false, false] = [3, 8])
    (rs111 : Region.ready md ops #[true, true, true, false, true, true, true, false, true, true, true, false, false, false] = [3])
    (rs200 : Region.ready md ops #[true, true, true, true, false, true, true, false, false, true, true, false, false, false] = [4, 8])
    (rs201 : Region.ready md ops #[true, true, true, true, false, true, true, false, true, true, true, false, false, false] = [4])
    (rs210 : Region.ready md ops #[true, true, true, true, true, true, true, false, false, true, true, false, false, false] = [7, 8])
    (rs211 : Region.ready md ops #[true, true, true, true, true, true, true, false, true, true, true, false, false, false] = [7])
    (rs220 : Region.ready md ops #[true, true, true, true, true, true, true, true, false, true, true, false, false, false] = [8])
    (rs221 : Region.ready md ops #[true, true, true, true, true, true, true, true, true, true, true, false, false, false] = [11])
    (fin : ∀ (a0 a b0 b c0 c : Value) (W : World), TrS W0 a b c u l p W → wpAnyH Tryz.prog md ops Q S 2 #[true, true, true, true, true, true, true, true, true, true, true, true, false, false] { tmps := #[x0, x1, x2, a0, x4, vu, a, b0, x8, vl, b, c0, x12, vp, c, undef], defers := [] } W)
    (a0 a b0 b c0 c : Value) (W : World) (hT : TrS W0 a b c [] [] [] W) : wpAnyH Tryz.prog md ops Q S 8 #[false, true, true, false, false, true, true, false, false, true, true, false, false, false] { tmps := #[x0, x1, x2, undef, x4, vu, undef, undef, x8, vl, undef, undef, x12, vp, undef, undef], defers := [] } W := by
  have sts221 : ∀ (a0 a b0 b c0 c : Value) (W : World), TrS W0 a b c u l [] W → wpAnyH Tryz.prog md ops Q S 3 #[true, true, true, true, true, true, true, true, true, true, true, false, false, false] { tmps := #[x0, x1, x2, a0, x4, vu, a, b0, x8, vl, b, c, x12, vp, undef, undef], defers := [] } W := by
    intro a0 a b0 b c0 c W hT
    refine wpAnyH_ready rs221 (by simp) ?_
    refine AllReadyH.cons h11 (fun K hK => ?_) AllReadyH.nil
    · refine step_append_tr g11 (.tmp 11) (.tmp 13) e11 W0.heap.size hT.keep.size c rfl hT.oc vp p rfl (kP _ hT.keep) np (by omega) (fun g cap W2 hown hgr hgv => ?_)
      rw [d11]
      have hT2 := hT.app3 hown hgr hgv
      exact hK.out _ _ (kS _ hT2.keep) (fun _ => fin a0 a b0 b c _ _ hT2)
  have sts211 : ∀ (a0 a b0 b c0 c : Value) (W : World), TrS W0 a b c u [] [] W → wpAnyH Tryz.prog md ops Q S 4 #[true, true, true, true, true, true, true, false, true, true, true, false, false, false] { tmps := #[x0, x1, x2, a0, x4, vu, a, b, x8, vl, undef, c, x12, vp, undef, undef], defers := [] } W := by
    intro a0 a b0 b c0 c W hT
    refine wpAnyH_ready rs211 (by simp) ?_
    refine AllReadyH.cons h7 (fun K hK => ?_) AllReadyH.nil
    · refine step_append_tr g7 (.tmp 7) (.tmp 9) e7 W0.heap.size hT.keep.size b rfl hT.ob vl l rfl (kL _ hT.keep) nl (by omega) (fun g cap W2 hown hgr hgv => ?_)
      rw [d7]
      have hT2 := hT.app2 hown hgr hgv
      exact hK.out _ _ (kS _ hT2.keep) (fun _ => sts221 a0 a b _ c0 c _ hT2)
  have sts220 : ∀ (a0 a b0 b c0 c : Value) (W : World), TrS W0 a b c u l [] W → wpAnyH Tryz.prog md ops Q S 4 #[true, true, true, true, true, true, true, true, false, true, true, false, false, false] { tmps := #[x0, x1, x2, a0, x4, vu, a, b0, x8, vl, b, undef, x12, vp, undef, undef], defers := [] } W := by
    intro a0 a b0 b c0 c W hT
    refine wpAnyH_ready rs220 (by simp) ?_
    refine AllReadyH.cons h8 (fun K hK => ?_) AllReadyH.nil
    · rw [if_pos (wanted_none g8)]
      unfold Oper.wp
      rw [e8]
      show K (Act.put _ o8.dst _) _
      rw [d8]
      have hT2 := hT.build3
      exact hK.out _ _ (kS _ hT2.keep) (fun _ => sts221 a0 a b0 b c0 _ _ hT2)
  have sts111 : ∀ (a0 a b0 b c0 c : Value) (W : World), TrS W0 a b c [] [] [] W → wpAnyH Tryz.prog md ops Q S 5 #[true, true, true, false, true, true, true, false, true, true, true, false, false, false] { tmps := #[x0, x1, x2, a, x4, vu, undef, b, x8, vl, undef, c, x12, vp, undef, undef], defers := [] } W := by
    intro a0 a b0 b c0 c W hT
    refine wpAnyH_ready rs111 (by simp) ?_
    refine AllReadyH.cons h3 (fun K hK => ?_) AllReadyH.nil
    · refine step_append_tr g3 (.tmp 3) (.tmp 5) e3 W0.heap.size hT.keep.size a rfl hT.oa vu u rfl (kU _ hT.keep) nu (by omega) (fun g cap W2 hown hgr hgv => ?_)
      rw [d3]
      have hT2 := hT.app1 hown hgr hgv
      exact hK.out _ _ (kS _ hT2.keep) (fun _ => sts211 a _ b0 b c0 c _ hT2)
  have sts201 : ∀ (a0 a b0 b c0 c : Value) (W : World), TrS W0 a b c u [] [] W → wpAnyH Tryz.prog md ops Q S 5 #[true, true, true, true, false, true, true, false, true, true, true, false, false, false] { tmps := #[x0, x1, x2, a0, x4, vu, a, undef, x8, vl, undef, c, x12, vp, undef, undef], defers := [] } W := by
    intro a0 a b0 b c0 c W hT
    refine wpAnyH_ready rs201 (by simp) ?_
    refine AllReadyH.cons h4 (fun K hK => ?_) AllReadyH.nil
    · rw [if_pos (wanted_none g4)]
      unfold Oper.wp
      rw [e4]
      show K (Act.put _ o4.dst _) _
      rw [d4]
      have hT2 := hT.build2
      exact hK.out _ _ (kS _ hT2.keep) (fun _ => sts211 a0 a b0 _ c0 c _ hT2)
  have sts210 : ∀ (a0 a b0 b c0 c : Value) (W : World), TrS W0 a b c u [] [] W → wpAnyH Tryz.prog md ops Q S 5 #[true, true, true, true, true, true, true, false, false, true, true, false, false, false] { tmps := #[x0, x1, x2, a0, x4, vu, a, b, x8, vl, undef, undef, x12, vp, undef, undef], defers := [] } W := by
    intro a0 a b0 b c0 c W hT
    refine wpAnyH_ready rs210 (by simp) ?_
    refine AllReadyH.cons h7 (fun K hK => ?_) (AllReadyH.cons h8 (fun K hK => ?_) AllReadyH.nil)
    · refine step_append_tr g7 (.tmp 7) (.tmp 9) e7 W0.heap.size hT.keep.size b rfl hT.ob vl l rfl (kL _ hT.keep) nl (by omega) (fun g cap W2 hown hgr hgv => ?_)
      rw [d7]
      have hT2 := hT.app2 hown hgr hgv
      exact hK.out _ _ (kS _ hT2.keep) (fun _ => sts220 a0 a b _ c0 c _ hT2)
    · rw [if_pos (wanted_none g8)]
      unfold Oper.wp
      rw [e8]
      show K (Act.put _ o8.dst _) _
      rw [d8]
      have hT2 := hT.build3
      exact hK.out _ _ (kS _ hT2.keep) (fun _ => sts211 a0 a b0 b c0 _ _ hT2)
  have sts011 : ∀ (a0 a b0 b c0 c : Value) (W : World), TrS W0 a b c [] [] [] W → wpAnyH Tryz.prog md ops Q S 6 #[false, true, true, false, true, true, true, false, true, true, true, false, false, false] { tmps := #[x0, x1, x2, undef, x4, vu, undef, b, x8, vl, undef, c, x12, vp, undef, undef], defers := [] } W := by
    intro a0 a b0 b c0 c W hT
    refine wpAnyH_ready rs011 (by simp) ?_
    refine AllReadyH.cons h0 (fun K hK => ?_) AllReadyH.nil
    · rw [if_pos (wanted_none g0)]
      unfold Oper.wp
      rw [e0]
      show K (Act.put _ o0.dst _) _
      rw [d0]
      have hT2 := hT.build1
      exact hK.out _ _ (kS _ hT2.keep) (fun _ => sts111 a0 _ b0 b c0 c _ hT2)
  have sts101 : ∀ (a0 a b0 b c0 c : Value) (W : World), TrS W0 a b c [] [] [] W → wpAnyH Tryz.prog md ops Q S 6 #[true, true, true, false, false, true, true, false, true, true, true, false, false, false] { tmps := #[x0, x1, x2, a, x4, vu, undef, undef, x8, vl, undef, c, x12, vp, undef, undef], defers := [] } W := by
    intro a0 a b0 b c0 c W hT
    refine wpAnyH_ready rs101 (by simp) ?_
    refine AllReadyH.cons h3 (fun K hK => ?_) (AllReadyH.cons h4 (fun K hK => ?_) AllReadyH.nil)
    · refine step_append_tr g3 (.tmp 3) (.tmp 5) e3 W0.heap.size hT.keep.size a rfl hT.oa vu u rfl (kU _ hT.keep) nu (by omega) (fun g cap W2 hown hgr hgv => ?_)
      rw [d3]
      have hT2 := hT.app1 hown hgr hgv
      exact hK.out _ _ (kS _ hT2.keep) (fun _ => sts201 a _ b0 b c0 c _ hT2)
    · rw [if_pos (wanted_none g4)]
      unfold Oper.wp
      rw [e4]
      show K (Act.put _ o4.dst _) _
      rw [d4]
      have hT2 := hT.build2
      exact hK.out _ _ (kS _ hT2.keep) (fun _ => sts111 a0 a b0 _ c0 c _ hT2)
  have sts110 : ∀ (a0 a b0 b c0 c : Value) (W : World), TrS W0 a b c [] [] [] W → wpAnyH Tryz.prog md ops Q S 6 #[true, true, true, false, true, true, true, false, false, true, true, false, false, false] { tmps := #[x0, x1, x2, a, x4, vu, undef, b, x8, vl, undef, undef, x12, vp, undef, undef], defers := [] } W := by
    intro a0 a b0 b c0 c W hT
    refine wpAnyH_ready rs110 (by simp) ?_
    refine AllReadyH.cons h3 (fun K hK => ?_) (AllReadyH.cons h8 (fun K hK => ?_) AllReadyH.nil)
    · refine step_append_tr g3 (.tmp 3) (.tmp 5) e3 W0.heap.size hT.keep.size a rfl hT.oa vu u rfl (kU _ hT.keep) nu (by omega) (fun g cap W2 hown hgr hgv => ?_)
      rw [d3]
      have hT2 := hT.app1 hown hgr hgv
      exact hK.out _ _ (kS _ hT2.keep) (fun _ => sts210 a _ b0 b c0 c _ hT2)
    · rw [if_pos (wanted_none g8)]
      unfold Oper.wp
      rw [e8]
      show K (Act.put _ o8.dst _) _
      rw [d8]
      have hT2 := hT.build3
      exact hK.out _ _ (kS _ hT2.keep) (fun _ => sts111 a0 a b0 b c0 _ _ hT2)
  have sts200 : ∀ (a0 a b0 b c0 c : Value) (W : World), TrS W0 a b c u [] [] W → wpAnyH Tryz.prog md ops Q S 6 #[true, true, true, true, false, true, true, false, false, true, true, false, false, false] { tmps := #[x0, x1, x2, a0, x4, vu, a, undef, x8, vl, undef, undef, x12, vp, undef, undef], defers := [] } W := by
    intro a0 a b0 b c0 c W hT
    refine wpAnyH_ready rs200 (by simp) ?_
    refine AllReadyH.cons h4 (fun K hK => ?_) (AllReadyH.cons h8 (fun K hK => ?_) AllReadyH.nil)
    · rw [if_pos (wanted_none g4)]
      unfold Oper.wp
      rw [e4]
      show K (Act.put _ o4.dst _) _
      rw [d4]
      have hT2 := hT.build2
      exact hK.out _ _ (kS _ hT2.keep) (fun _ => sts210 a0 a b0 _ c0 c _ hT2)
    · rw [if_pos (wanted_none g8)]
      unfold Oper.wp
      rw [e8]
      show K (Act.put _ o8.dst _) _
      rw [d8]
      have hT2 := hT.build3
      exact hK.out _ _ (kS _ hT2.keep) (fun _ => sts201 a0 a b0 b c0 _ _ hT2)
  have sts001 : ∀ (a0 a b0 b c0 c : Value) (W : World), TrS W0 a b c [] [] [] W → wpAnyH Tryz.prog md ops Q S 7 #[false, true, true, false, false, true, true, false, true, true, true, false, false, false] { tmps := #[x0, x1, x2, undef, x4, vu, undef, undef, x8, vl, undef, c, x12, vp, undef, undef], defers := [] } W := by
    intro a0 a b0 b c0 c W hT
    refine wpAnyH_ready rs001 (by simp) ?_
    refine AllReadyH.cons h0 (fun K hK => ?_) (AllReadyH.cons h4 (fun K hK => ?_) AllReadyH.nil)
    · rw [if_pos (wanted_none g0)]
      unfold Oper.wp
      rw [e0]
      show K (Act.put _ o0.dst _) _
      rw [d0]
      have hT2 := hT.build1
      exact hK.out _ _ (kS _ hT2.keep) (fun _ => sts101 a0 _ b0 b c0 c _ hT2)
    · rw [if_pos (wanted_none g4)]
      unfold Oper.wp
      rw [e4]
      show K (Act.put _ o4.dst _) _
      rw [d4]
      have hT2 := hT.build2
      exact hK.out _ _ (kS _ hT2.keep) (fun _ => sts011 a0 a b0 _ c0 c _ hT2)
  have sts010 : ∀ (a0 a b0 b c0 c : Value) (W : World), TrS W0 a b c [] [] [] W → wpAnyH Tryz.prog md ops Q S 7 #[false, true, true, false, true, true, true, false, false, true, true, false, false, false] { tmps := #[x0, x1, x2, undef, x4, vu, undef, b, x8, vl, undef, undef, x12, vp, undef, undef], defers := [] } W := by
    intro a0 a b0 b c0 c W hT
    refine wpAnyH_ready rs010 (by simp) ?_
    refine AllReadyH.cons h0 (fun K hK => ?_) (AllReadyH.cons h8 (fun K hK => ?_) AllReadyH.nil)
    · rw [if_pos (wanted_none g0)]
      unfold Oper.wp
      rw [e0]
      show K (Act.put _ o0.dst _) _
      rw [d0]
      have hT2 := hT.build1
      exact hK.out _ _ (kS _ hT2.keep) (fun _ => sts110 a0 _ b0 b c0 c _ hT2)
    · rw [if_pos (wanted_none g8)]
      unfold Oper.wp
      rw [e8]
      show K (Act.put _ o8.dst _) _
      rw [d8]
      have hT2 := hT.build3
      exact hK.out _ _ (kS _ hT2.keep) (fun _ => sts011 a0 a b0 b c0 _ _ hT2)
  have sts100 : ∀ (a0 a b0 b c0 c : Value) (W : World), TrS W0 a b c [] [] [] W → wpAnyH Tryz.prog md ops Q S 7 #[true, true, true, false, false, true, true, false, false, true, true, false, false, false] { tmps := #[x0, x1, x2, a, x4, vu, undef, undef, x8, vl, undef, undef, x12, vp, undef, undef], defers := [] } W := by
    intro a0 a b0 b c0 c W hT
    refine wpAnyH_ready rs100 (by simp) ?_
    refine AllReadyH.cons h3 (fun K hK => ?_) (AllReadyH.cons h4 (fun K hK => ?_) (AllReadyH.cons h8 (fun K hK => ?_) AllReadyH.nil))
    · refine step_append_tr g3 (.tmp 3) (.tmp 5) e3 W0.heap.size hT.keep.size a rfl hT.oa vu u rfl (kU _ hT.keep) nu (by omega) (fun g cap W2 hown hgr hgv => ?_)
      rw [d3]
      have hT2 := hT.app1 hown hgr hgv
      exact hK.out _ _ (kS _ hT2.keep) (fun _ => sts200 a _ b0 b c0 c _ hT2)
    · rw [if_pos (wanted_none g4)]
      unfold Oper.wp
      rw [e4]
      show K (Act.put _ o4.dst _) _
      rw [d4]
      have hT2 := hT.build2
      exact hK.out _ _ (kS _ hT2.keep) (fun _ => sts110 a0 a b0 _ c0 c _ hT2)
    · rw [if_pos (wanted_none g8)]
      unfold Oper.wp
      rw [e8]
      show K (Act.put _ o8.dst _) _
      rw [d8]
      have hT2 := hT.build3
      exact hK.out _ _ (kS _ hT2.keep) (fun _ => sts101 a0 a b0 b c0 _ _ hT2)
  refine wpAnyH_ready rs000 (by simp) ?_
  refine AllReadyH.cons h0 (fun K hK => ?_) (AllReadyH.cons h4 (fun K hK => ?_) (AllReadyH.cons h8 (fun K hK => ?_) AllReadyH.nil))
  · rw [if_pos (wanted_none g0)]
    unfold Oper.wp
    rw [e0]
    show K (Act.put _ o0.dst _) _
    rw [d0]
    have hT2 := hT.build1
    exact hK.out _ _ (kS _ hT2.keep) (fun _ => sts100 a0 _ b0 b c0 c _ hT2)
  · rw [if_pos (wanted_none g4)]
    unfold Oper.wp
    rw [e4]
    show K (Act.put _ o4.dst _) _
    rw [d4]
    have hT2 := hT.build2
    exact hK.out _ _ (kS _ hT2.keep) (fun _ => sts010 a0 a b0 _ c0 c _ hT2)
  · rw [if_pos (wanted_none g8)]
    unfold Oper.wp
    rw [e8]
    show K (Act.put _ o8.dst _) _
    rw [d8]
    have hT2 := hT.build3
    exact hK.out _ _ (kS _ hT2.keep) (fun _ => sts001 a0 a b0 b c0 _ _ hT2)
/-- What trayBite ends with. -/
def TrayE (u l p : List Cel) (w : World) (e : Ending) (w' : World) : Prop := ∃ va vb vc : Value, e = .returned (.agg #[va, vb, vc]) ∧ Own w' w.heap.size va u ∧ Own w' w.heap.size vb l ∧ Own w' w.heap.size vc p ∧ Below w.heap.size w w'
theorem trayBite_ok (u l p : List Cel) (vu vl vp : Value) (w : World) (hu : Sl w vu u) (hl : Sl w vl l) (hp : Sl w vp p) (nu : 0 < u.length) (nl : 0 < l.length) (np : 0 < p.length) (mu : u.length ≤ 4096) (ml : l.length ≤ 4096) (mp : p.length ≤ 4096) :
    Calls Tryz.prog 8 #[.agg #[vu, vl, vp]] w (TrayE u l p w) := by
  obtain ⟨U, uc, rfl⟩ := hu.form
  obtain ⟨A, ac, rfl⟩ := hl.form
  obtain ⟨P, pc, rfl⟩ := hp.form
  unfold TrayE
  obtain ⟨W0, hW⟩ : ∃ W0, W0 = (w.alloc (.cells #[.slice U u.length uc, .slice A l.length ac, .slice P p.length pc] 24)).alloc (.cells #[.slice none 0 0, .slice none 0 0, .slice none 0 0] 31) := ⟨_, rfl⟩
  have hB0 : Below w.heap.size w W0 := by subst hW; exact ((Below.refl _ _).alloc (Nat.le_refl _) _).alloc (by simp) _
  have hsz : W0.heap.size = w.heap.size + 1 + 1 := by subst hW; simp
  have hrow : W0.heap[w.heap.size]? = some (.cells #[.slice U u.length uc, .slice A l.length ac, .slice P p.length pc] 24 (0, 0)) := by
    rw [hW, Below.heap_alloc _ _ _ (by simp)]
    exact heap_alloc_new w _
  have hres : W0.heap[w.heap.size + 1]? = some (.cells #[.slice none 0 0, .slice none 0 0, .slice none 0 0] 31 (0, 0)) := by
    have := heap_alloc_new (w.alloc (.cells #[.slice U u.length uc, .slice A l.length ac, .slice P p.length pc] 24)) (.cells #[.slice none 0 0, .slice none 0 0, .slice none 0 0] 31)
    rw [← hW] at this
    simpa using this
  have kS : ∀ V, Below W0.heap.size W0 V → V.cell? ⟨w.heap.size, 0, none⟩ = some (.slice U u.length uc) ∧ V.cell? ⟨w.heap.size, 1, none⟩ = some (.slice A l.length ac) ∧ V.cell? ⟨w.heap.size, 2, none⟩ = some (.slice P p.length pc) := fun V h => three_cellsB ((h.block _ (by omega)).trans hrow)
  have kB : ∀ V, Below W0.heap.size W0 V → V.heap[w.heap.size]? = some (.cells #[.slice U u.length uc, .slice A l.length ac, .slice P p.length pc] 24 (0, 0)) := fun V h => (h.block _ (by omega)).trans hrow
  have kU : ∀ V, Below W0.heap.size W0 V → Sl V (.slice U u.length uc) u := fun V h => hu.below (hB0.trans (h.mono hB0.size))
  have kL : ∀ V, Below W0.heap.size W0 V → Sl V (.slice A l.length ac) l := fun V h => hl.below (hB0.trans (h.mono hB0.size))
  have kP : ∀ V, Below W0.heap.size W0 V → Sl V (.slice P p.length pc) p := fun V h => hp.below (hB0.trans (h.mono hB0.size))
  obtain ⟨a0, ha0⟩ : ∃ a0, a0 = Value.slice none 0 0 := ⟨_, rfl⟩
  obtain ⟨b0, hb0⟩ : ∃ b0, b0 = Value.slice none 0 0 := ⟨_, rfl⟩
  obtain ⟨c0, hc0⟩ : ∃ c0, c0 = Value.slice none 0 0 := ⟨_, rfl⟩
  obtain ⟨a, ha⟩ : ∃ a, a = Value.slice none 0 0 := ⟨_, rfl⟩
  obtain ⟨b, hb⟩ : ∃ b, b = Value.slice none 0 0 := ⟨_, rfl⟩
  obtain ⟨c, hc⟩ : ∃ c, c = Value.slice none 0 0 := ⟨_, rfl⟩
  have hT : TrS W0 a b c [] [] [] W0.drew := by
    subst ha hb hc
    exact ⟨Own.nil _ _, Own.nil _ _, Own.nil _ _, fun g e => (by cases e), fun g e => (by cases e), fun g e => (by cases e), (Below.refl _ _).drew⟩
  clear ha0 hb0 hc0 ha hb hc hu hl hp hrow
  go_enter Tryz.func8, Tryz.ntmps8
  go_wp2_with fail
  rw [← hW]
  clear hW

  refine wp_region_held_drew (S := fun w' => w'.cell? ⟨w.heap.size, 0, none⟩ = some (.slice U u.length uc) ∧ w'.cell? ⟨w.heap.size, 1, none⟩ = some (.slice A l.length ac) ∧ w'.cell? ⟨w.heap.size, 2, none⟩ = some (.slice P p.length pc)) (by kernel_rfl) (kS _ hT.keep) (fun hHeld => ?_)
  refine held_yes 1 (some 4) (.pointer (some ⟨w.heap.size, 0, none⟩)) rfl rfl (by kernel_rfl) (by kernel_rfl) (by kernel_rfl) (fun _ _ _ h => h) rfl (fun w' hS => by obtain ⟨t0, t1, t2⟩ := hS; go_simp) hHeld ?_
  try simp only [Act.put, List.setIfInBounds_toArray, List.set_cons_zero, List.set_cons_succ]
  refine held_yes 2 (some 5) (.slice U u.length uc) rfl rfl (by kernel_rfl) (by kernel_rfl) (by kernel_rfl) (fun _ _ _ h => h) rfl (fun w' hS => by obtain ⟨t0, t1, t2⟩ := hS; go_simp) hHeld ?_
  try simp only [Act.put, List.setIfInBounds_toArray, List.set_cons_zero, List.set_cons_succ]
  refine held_yes 5 (some 8) (.pointer (some ⟨w.heap.size, 1, none⟩)) rfl rfl (by kernel_rfl) (by kernel_rfl) (by kernel_rfl) (fun _ _ _ h => h) rfl (fun w' hS => by obtain ⟨t0, t1, t2⟩ := hS; go_simp) hHeld ?_
  try simp only [Act.put, List.setIfInBounds_toArray, List.set_cons_zero, List.set_cons_succ]
  refine held_yes 6 (some 9) (.slice A l.length ac) rfl rfl (by kernel_rfl) (by kernel_rfl) (by kernel_rfl) (fun _ _ _ h => h) rfl (fun w' hS => by obtain ⟨t0, t1, t2⟩ := hS; go_simp) hHeld ?_
  try simp only [Act.put, List.setIfInBounds_toArray, List.set_cons_zero, List.set_cons_succ]
  refine held_yes 9 (some 12) (.pointer (some ⟨w.heap.size, 2, none⟩)) rfl rfl (by kernel_rfl) (by kernel_rfl) (by kernel_rfl) (fun _ _ _ h => h) rfl (fun w' hS => by obtain ⟨t0, t1, t2⟩ := hS; go_simp) hHeld ?_
  try simp only [Act.put, List.setIfInBounds_toArray, List.set_cons_zero, List.set_cons_succ]
  refine held_yes 10 (some 13) (.slice P p.length pc) rfl rfl (by kernel_rfl) (by kernel_rfl) (by kernel_rfl) (fun _ _ _ h => h) rfl (fun w' hS => by obtain ⟨t0, t1, t2⟩ := hS; go_simp) hHeld ?_
  try simp only [Act.put, List.setIfInBounds_toArray, List.set_cons_zero, List.set_cons_succ]
  clear hHeld
  refine tray_region W0 _ _ _ _ _ _ _ _ _ u l p kS kU kL kP nu nl np mu ml mp rfl rfl rfl (fun a w => by go_simp) rfl rfl rfl (fun a w => by go_simp) rfl rfl rfl (fun a w => by go_simp) rfl rfl rfl rfl rfl rfl rfl rfl rfl rfl rfl rfl (by kernel_rfl) (by kernel_rfl) (by kernel_rfl) (by kernel_rfl) (by kernel_rfl) (by kernel_rfl) (by kernel_rfl) (by kernel_rfl) (by kernel_rfl) (by kernel_rfl) (by kernel_rfl) (by kernel_rfl) (by kernel_rfl) (by kernel_rfl) ?fin a0 a b0 b c0 c _ hT
  case fin =>
    intro a0 a b0 b c0 c W hT
    obtain ⟨Aa, ka, rfl⟩ := hT.oa.sl.form
    obtain ⟨Ab, kb, rfl⟩ := hT.ob.sl.form
    obtain ⟨Ac, kc, rfl⟩ := hT.oc.sl.form
    have hS := kS _ hT.keep
    have hbox := kB _ hT.keep
    have hr := (hT.keep.block _ (by omega)).trans hres
    obtain ⟨z0, z1, z2⟩ := three_cellsB hr
    have fz := fun j => frozen_of_row W (w.heap.size + 1) j _ _ hr
    have f0 := fz 0
    have f1 := fz 1
    have f2 := fz 2
    clear fz
    refine held_yes 12 (some 15) (.agg #[.slice Aa u.length ka, .slice Ab l.length kb, .slice Ac p.length kc]) rfl rfl (by kernel_rfl) (by kernel_rfl) (by kernel_rfl) (fun _ _ _ h => h) rfl (fun w' hS => by go_simp) hS ?_
    try simp only [Act.put, List.setIfInBounds_toArray, List.set_cons_zero, List.set_cons_succ]
    refine wpAnyH_ready (rs := [13]) (by kernel_rfl) (by simp) ?_
    refine AllReadyH.cons rfl (fun K hK => ?_) AllReadyH.nil
    have hF : (((W.setCell ⟨w.heap.size + 1, 0, none⟩ (.slice Aa u.length ka)).setCell ⟨w.heap.size + 1, 1, none⟩ (.slice Ab l.length kb)).setCell ⟨w.heap.size + 1, 2, none⟩ (.slice Ac p.length kc)).heap[w.heap.size + 1]? = some (.cells #[.slice Aa u.length ka, .slice Ab l.length kb, .slice Ac p.length kc] 31 (0, 0)) := by
      have hz := heap_setCell_same _ (w.heap.size + 1) 2 _ _ (.slice Ac p.length kc) (heap_setCell_same _ (w.heap.size + 1) 1 _ _ (.slice Ab l.length kb) (heap_setCell_same _ (w.heap.size + 1) 0 _ _ (.slice Aa u.length ka) hr))
      simpa using hz
    have hsm : ∀ k, k ≠ w.heap.size + 1 → (((W.setCell ⟨w.heap.size + 1, 0, none⟩ (.slice Aa u.length ka)).setCell ⟨w.heap.size + 1, 1, none⟩ (.slice Ab l.length kb)).setCell ⟨w.heap.size + 1, 2, none⟩ (.slice Ac p.length kc)).heap[k]? = W.heap[k]? := fun k hk => ((Below.heap_setCell _ ⟨w.heap.size + 1, 2, none⟩ _ k hk).trans (Below.heap_setCell _ ⟨w.heap.size + 1, 1, none⟩ _ k hk)).trans (Below.heap_setCell _ ⟨w.heap.size + 1, 0, none⟩ _ k hk)
    have hXw := hB0.trans (hT.keep.mono hB0.size)
    have hXf : Below w.heap.size w (((W.setCell ⟨w.heap.size + 1, 0, none⟩ (.slice Aa u.length ka)).setCell ⟨w.heap.size + 1, 1, none⟩ (.slice Ab l.length kb)).setCell ⟨w.heap.size + 1, 2, none⟩ (.slice Ac p.length kc)) := ((hXw.setCell (p := ⟨w.heap.size + 1, 0, none⟩) (Nat.le_succ _) _).setCell (p := ⟨w.heap.size + 1, 1, none⟩) (Nat.le_succ _) _).setCell (p := ⟨w.heap.size + 1, 2, none⟩) (Nat.le_succ _) _
    have oa : Own (((W.setCell ⟨w.heap.size + 1, 0, none⟩ (.slice Aa u.length ka)).setCell ⟨w.heap.size + 1, 1, none⟩ (.slice Ab l.length kb)).setCell ⟨w.heap.size + 1, 2, none⟩ (.slice Ac p.length kc)) w.heap.size (.slice Aa u.length ka) u := (hT.oa.same fun g e => hsm g (by have := (hT.oa.ge e).1; omega)).mono hB0.size
    have ob : Own (((W.setCell ⟨w.heap.size + 1, 0, none⟩ (.slice Aa u.length ka)).setCell ⟨w.heap.size + 1, 1, none⟩ (.slice Ab l.length kb)).setCell ⟨w.heap.size + 1, 2, none⟩ (.slice Ac p.length kc)) w.heap.size (.slice Ab l.length kb) l := (hT.ob.same fun g e => hsm g (by have := (hT.ob.ge e).1; omega)).mono hB0.size
    have oc : Own (((W.setCell ⟨w.heap.size + 1, 0, none⟩ (.slice Aa u.length ka)).setCell ⟨w.heap.size + 1, 1, none⟩ (.slice Ab l.length kb)).setCell ⟨w.heap.size + 1, 2, none⟩ (.slice Ac p.length kc)) w.heap.size (.slice Ac p.length kc) p := (hT.oc.same fun g e => hsm g (by have := (hT.oc.ge e).1; omega)).mono hB0.size
    have HF := Lib.hid hF
    have HR := Lib.hid (And.intro oa (And.intro ob (And.intro oc hXf)))
    clear hF hsm oa ob oc hXf hXw hT hr
    go_simp
    refine hK.out _ _ ?hS2 (fun _ => ?_)
    case hS2 => exact three_cellsB ((Below.heap_setCell _ ⟨w.heap.size + 1, 2, none⟩ _ _ (by show w.heap.size ≠ w.heap.size + 1; omega)).trans ((Below.heap_setCell _ ⟨w.heap.size + 1, 1, none⟩ _ _ (by show w.heap.size ≠ w.heap.size + 1; omega)).trans ((Below.heap_setCell _ ⟨w.heap.size + 1, 0, none⟩ _ _ (by show w.heap.size ≠ w.heap.size + 1; omega)).trans hbox)))
    refine wpAnyH_done (by kernel_rfl) ?_ _
    clear hK K
    go_wp2
    refine bodyPost_ret (results_cell_row rfl _ _ _ 31 #[.slice Aa u.length ka, .slice Ab l.length kb, .slice Ac p.length kc] (0, 0) _ rfl HF.out Tryz.underlying31 rfl (by kernel_rfl)) rfl ?_
    exact ⟨_, _, _, rfl, HR.out.1, HR.out.2.1, HR.out.2.2.1, HR.out.2.2.2⟩
end Go.Proofs
