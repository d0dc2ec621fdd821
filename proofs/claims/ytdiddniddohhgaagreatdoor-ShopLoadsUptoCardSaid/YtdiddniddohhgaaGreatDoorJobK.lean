/- Jobs: the best order. -/
import Derived.Test.YtdiddniddohhgaaGreatDoorJobI
namespace Go.Proofs
open Go.RowKit Go.MapKept
set_option maxHeartbeats 16000000
set_option maxRecDepth 1000000
theorem made8 {m : Nat} (h : m ≤ 8) : madeCells #[Value.int .i64 0] m = (List.replicate m (Value.int .i64 0)).toArray := by
  have _h := h
  apply Array.ext
  · simp [madeCells]
  · intro i h1 h2
    simp [madeCells, Nat.mod_one]
theorem make8 {m : Nat} (h : m ≤ 8) (W : World) : (Instr.makeSlice 23 (.int .i64 m) (.int .i64 m)).run Tryz.prog W = .ok (.slice (some ⟨W.heap.size, 0, none⟩) m m) (W.alloc (.cells (List.replicate m (Value.int .i64 0)).toArray 3)) := by
  obtain ⟨j0, hj, hy0, hy1, hy2⟩ := info_parts (P := Tryz.prog) (e := 3) (z := .int .i64 0) (size := 1) (bytes := 8) (by kernel_rfl)
  have := run_make (P := Tryz.prog) W 23 3 j0 _ Tryz.underlying23 hj hy0 .i64 .i64 m m (by omega) (Int.le_refl _) (by rw [hy2]; omega) (by omega)
  rw [this, hy1]
  simp only [Int.toNat_natCast, Nat.mul_one]
  rw [show (Value.int IntKind.i64 0).cells = #[Value.int .i64 0] from rfl, made8 h]
theorem zeros_own {m : Nat} (h : m ≤ 8) (W : World) (B : Nat) (hB : B ≤ W.heap.size) : OwnI 3 (W.alloc (.cells (List.replicate m (Value.int .i64 0)).toArray 3)) B (.slice (some ⟨W.heap.size, 0, none⟩) m m) (List.replicate m 0) := by
  refine ⟨by simp, .inr ⟨W.heap.size, m, (List.replicate m (Value.int .i64 0)).toArray, by rw [List.length_replicate], hB, heap_alloc_new W _, by rw [List.length_replicate]; exact Nat.le_refl _, by unfold maxLen; omega, by simp, ?_⟩⟩
  rw [List.map_replicate, List.length_replicate, Nat.mul_one]
  exact List.take_of_length_le (by simp)
theorem rows3b (W : World) (T1 T2 T3 : TypeId) (c1 c2 c3 : List Value) (W6 : World) (h : W6 = ((W.alloc (.cells c1.toArray T1)).alloc (.cells c2.toArray T2)).alloc (.cells c3.toArray T3)) :
    RowK W6 T1 W.heap.size c1 ∧ RowK W6 T2 (W.heap.size + 1) c2 ∧ RowK W6 T3 (W.heap.size + 1 + 1) c3 ∧ Below W.heap.size W W6 ∧ W6.heap.size = W.heap.size + 1 + 1 + 1 := by
  have h2 := heap_alloc_new (W.alloc (.cells c1.toArray T1)) (.cells c2.toArray T2)
  have h3 := heap_alloc_new ((W.alloc (.cells c1.toArray T1)).alloc (.cells c2.toArray T2)) (.cells c3.toArray T3)
  subst h
  refine ⟨(Below.heap_alloc _ _ _ (by simp; omega)).trans ((Below.heap_alloc _ _ _ (by simp)).trans (heap_alloc_new W _)), ?_, ?_, (((Below.refl _ _).alloc (Nat.le_refl _) _).alloc (by simp) _).alloc (by simp; omega) _, by simp⟩
  · refine (Below.heap_alloc _ _ _ (by simp)).trans ?_
    simpa using h2
  · unfold RowK
    simpa using h3
def bestP (m : Nat) (js : List JobT) : StT := expl js js.length [] (List.replicate m 0) none
def BestR (m : Nat) (js : List JobT) (B : Nat) (w' : World) (u : Value) : Prop := match bestP m js with
  | none => u = .slice none 0 0
  | some x => OwnI 3 w' B u (ints x.1) ∧ x.1 ≠ []
theorem best_ok (js : List JobT) (m : Nat) (v : Value) (w : World) (hl : SlJ w v js) (ok : JobsOk m js) (h8 : js.length ≤ 8) (hm : 0 < m ∧ m ≤ 8) :
    Calls Tryz.prog 28 #[v] w fun e w' => (∃ u, e = .returned (.tuple #[u, .int .i64 0]) ∧ BestR m js w.heap.size w' u) ∧ Below w.heap.size w w' := by
  obtain ⟨bJ, oJ, cap, rfl, hbJ, hat⟩ := hl.addr ok.pos
  have hl0 := hl
  have hpos := ok.pos
  have hw1 := fun W => shWhen_ok false 22 W
  simp only [Bool.false_eq_true, if_false] at hw1
  have ho := fun blk W => shFirst2 0 0 blk 2 W
  rw [show or3 0 0 0 = 0 from rfl] at ho
  have hn1 : decide ((8 : Int) < js.length) = false := by simp; omega
  obtain ⟨W0, hW⟩ : ∃ W0, W0 = w.alloc (.cells #[.slice (some ⟨bJ, oJ, none⟩) js.length cap] 65) := ⟨_, rfl⟩
  have hB0 : Below w.heap.size w W0 := by subst hW; exact (Below.refl _ _).alloc (Nat.le_refl _) _
  have rj : RowK W0 65 w.heap.size [.slice (some ⟨bJ, oJ, none⟩) js.length cap] := by subst hW; exact heap_alloc_new w _
  have kk : ∀ V, Below W0.heap.size W0 V → V.cell? ⟨w.heap.size, 0, none⟩ = some (.slice (some ⟨bJ, oJ, none⟩) js.length cap) := fun V h => (rj.below h).cell (by rfl)
  have hD := (Below.refl W0.heap.size W0).drew
  have hky := kk _ hD
  have kJ := fun W (h : Below w.heap.size w W) => checkJobs_ok js m _ W (hl.below h) ok
  have hDw := hB0.trans (hD.mono hB0.size)
  obtain ⟨⟨nm0, t0, d0⟩, hj0⟩ : ∃ j, js[0]? = some j := ⟨_, List.getElem?_eq_getElem hpos⟩
  obtain ⟨vt0, vd0, -, q1, -, qt, -⟩ := hat 0 _ hj0
  dsimp only at q1 qt
  rw [Nat.zero_mul, Nat.add_zero] at q1
  have hm0 : t0.length = m := (ok.ok _ (List.mem_of_getElem? hj0)).t
  have kSt := fun W (h : Below w.heap.size w W) => stations_ok vt0 t0 bJ oJ js.length cap W ((h.cell (p := ⟨bJ, oJ + 1, none⟩) hbJ).trans q1) (qt.below h) hpos
  rw [hm0] at kSt
  have HKJ := Lib.hid kJ
  have HKS := Lib.hid kSt
  have HKK := Lib.hid kk
  have HL := Lib.hid hl0
  have HOK := Lib.hid ok
  clear kJ kSt kk hl0 hat q1 qt hj0 hm0 hl ok
  go_enter Tryz.func28, Tryz.ntmps28
  go_wp2_with fail
  rw [← hW]
  clear hW
  go_region_held3 (fun w' => w'.cell? ⟨w.heap.size, 0, none⟩ = some (.slice (some ⟨bJ, oJ, none⟩) js.length cap)) (first | exact hky | exact hkyA | go_keep)
    (first
      | (go_at_call 62; refine (HKJ.out _ hDw).mono ?_; rintro e v1 ⟨rfl, hQ1⟩; have hX1 := hD.trans (hQ1.mono hD.size); have hky := HKK.out _ hX1; have hX2 := (hX1.alloc hX1.size (.cells #[.int .i64 0, .int .i64 0] 28)); have hkyA := HKK.out _ hX2)
      | (go_at_call 40; refine (hw1 _).mono ?_; rintro e v2 ⟨rfl, hv2⟩; obtain rfl : v1 = v2 := hv2.symm)
      | (go_at_call 39; refine (ho _ _ ?_ ?_).mono ?_; (go_simp); (go_simp); rintro e w5 ⟨rfl, rfl⟩))
  rename_i hHeld
  clear hHeld hkyA hky hw1 ho hX1 hQ1
  generalize v1.alloc (.cells #[.int .i64 0, .int .i64 0] 28) = Wa at hX2 ⊢
  have hza : w.heap.size < Wa.heap.size := Nat.lt_of_lt_of_le rj.lt hX2.size
  obtain ⟨Wb, hWb⟩ : ∃ Wb, Wb = ((Wa.alloc (.cells #[.slice none 0 0] 23)).alloc (.cells #[.int .i64 0] 3)).alloc (.cells #[extV Wa.heap.size (Wa.heap.size + 1) w.heap.size (Wa.heap.size + 1 + 1)] 134) := ⟨_, rfl⟩
  obtain ⟨rb, rl, rx, hbb, hzb⟩ := rows3b Wa _ _ _ [.slice none 0 0] [.int .i64 0] [extV Wa.heap.size (Wa.heap.size + 1) w.heap.size (Wa.heap.size + 1 + 1)] Wb hWb
  have hXb := hX2.trans (hbb.mono hX2.size)
  have hBb := hB0.trans (hXb.mono hB0.size)
  have hsf : ∀ (a : Addr) (fn : Fn) (u c : Array Value) (md : Mode) (W : World), (store a (.func fn u c) md).run Tryz.prog W = stored Tryz.prog W a (.func fn u c) md := fun a fn u c md W => run_store _ _ _ _ _ rfl
  unfold extV ptrN at hWb
  have HWB := Lib.hid hWb
  have HZB := Lib.hid hzb
  clear hWb hzb
  go_wp2_with fail
  rw [← HWB.out]
  clear HWB
  have rjb := rj.below hXb
  have kk8 : ∀ V, Below Wb.heap.size Wb V → V.cell? ⟨Wa.heap.size + 1 + 1, 0, none⟩ = some (extV Wa.heap.size (Wa.heap.size + 1) w.heap.size (Wa.heap.size + 1 + 1)) ∧ V.cell? ⟨w.heap.size, 0, none⟩ = some (.slice (some ⟨bJ, oJ, none⟩) js.length cap) := fun V h => ⟨(rx.below h).cell (by rfl), (rjb.below h).cell (by rfl)⟩
  have hHeld := kk8 _ (Below.refl Wb.heap.size Wb).drew
  have hDb := hBb.trans ((Below.refl Wb.heap.size Wb).drew.mono hBb.size)
  have kS8 := HKS.out _ hDb
  have hmake := make8 hm.2
  refine wp_region_held_drew (S := fun V => V.cell? ⟨Wa.heap.size + 1 + 1, 0, none⟩ = some (extV Wa.heap.size (Wa.heap.size + 1) w.heap.size (Wa.heap.size + 1 + 1)) ∧ V.cell? ⟨w.heap.size, 0, none⟩ = some (.slice (some ⟨bJ, oJ, none⟩) js.length cap)) (by kernel_rfl) hHeld (fun hHeld => ?_)
  refine held_yes 0 (some 20) (extV Wa.heap.size (Wa.heap.size + 1) w.heap.size (Wa.heap.size + 1 + 1)) rfl rfl (by kernel_rfl) (by kernel_rfl) (by kernel_rfl) (fun _ _ _ h => h) rfl (fun w' hS => by obtain ⟨s0, s1⟩ := hS; unfold extV at *; go_simp) hHeld ?_
  try simp only [Act.put, List.setIfInBounds_toArray, List.set_cons_zero, List.set_cons_succ]
  refine held_yes 1 (some 21) (.slice (some ⟨bJ, oJ, none⟩) js.length cap) rfl rfl (by kernel_rfl) (by kernel_rfl) (by kernel_rfl) (fun _ _ _ h => h) rfl (fun w' hS => by obtain ⟨s0, s1⟩ := hS; unfold extV at *; go_simp) hHeld ?_
  try simp only [Act.put, List.setIfInBounds_toArray, List.set_cons_zero, List.set_cons_succ]
  refine wpAnyH_ready (rs := [2]) (by kernel_rfl) (by simp) ?_
  refine AllReadyH.cons rfl (fun K hK => ?_) AllReadyH.nil
  go_simp
  refine kS8.mono ?_
  rintro e w2 ⟨rfl, hw2⟩
  obtain rfl : Wb.drew = w2 := hw2.symm
  clear kS8 hw2
  go_wp2_with fail
  refine hK.out _ _ hHeld (fun hHeld => ?_)
  clear hK K
  try simp only [Act.put, List.setIfInBounds_toArray, List.set_cons_zero, List.set_cons_succ]
  refine wpAnyH_ready (rs := [3]) (by kernel_rfl) (by simp) ?_
  refine AllReadyH.cons rfl (fun K hK => ?_) AllReadyH.nil
  go_simp
  have hown : OwnI 3 (Wb.alloc (.cells (Array.replicate m (Value.int .i64 0)) 3)).drew (Wa.heap.size + 1 + 1 + 1) (.slice (some ⟨Wb.heap.size, 0, none⟩) m m) (List.replicate m 0) := by
    have := zeros_own hm.2 Wb (Wa.heap.size + 1 + 1 + 1) (by rw [← HZB.out]; exact Nat.le_refl _)
    rw [show (List.replicate m (Value.int IntKind.i64 0)).toArray = Array.replicate m (Value.int .i64 0) by simp] at this
    exact this
  have hbM : Below Wb.heap.size Wb (Wb.alloc (.cells (Array.replicate m (Value.int .i64 0)) 3)).drew := ((Below.refl Wb.heap.size Wb).alloc (Nat.le_refl _) _).drew
  obtain ⟨Wm, hWm⟩ : ∃ Wm, Wm = (Wb.alloc (.cells (Array.replicate m (Value.int .i64 0)) 3)).drew := ⟨_, rfl⟩
  rw [← hWm] at hown hbM ⊢
  clear hWm
  refine hK.out _ _ (kk8 _ hbM) (fun hHeld => ?_)
  clear hK K
  try simp only [Act.put, List.setIfInBounds_toArray, List.set_cons_zero, List.set_cons_succ]
  have hx : Bx w.heap.size (Wa.heap.size + 1 + 1 + 1) Wa.heap.size (Wa.heap.size + 1) w.heap.size (Wa.heap.size + 1 + 1) := ⟨by omega, by omega, Nat.le_refl _, by omega, by omega, by omega, by omega, by omega, by omega, by omega, by omega, by omega, by omega⟩
  have hzm : Wa.heap.size + 1 + 1 + 1 ≤ Wm.heap.size := by rw [← HZB.out]; exact hbM.size
  have hP : PreB js m w (Wa.heap.size + 1 + 1 + 1) Wa.heap.size (Wa.heap.size + 1) w.heap.size (Wa.heap.size + 1 + 1) (.slice (some ⟨bJ, oJ, none⟩) js.length cap) [] (List.replicate m 0) none (.slice none 0 0) (.slice (some ⟨Wb.heap.size, 0, none⟩) m m) (.slice none 0 0) Wm := by
    refine ⟨⟨rjb.below hbM, rx.below hbM, hzm, hBb.trans (hbM.mono hBb.size)⟩, ⟨0, rb.below hbM, rl.below hbM, rfl⟩, OwnI.nil _ _ _, hown, (fun g e => (by cases e)), (fun g e => (by cases e)), (fun g e => (by cases e)), ⟨by simp, fun i => ?_⟩⟩
    have h0 : at0 (List.replicate m (0 : Int)) i = 0 := by
      unfold at0
      rw [List.getElem?_replicate]
      split <;> rfl
    rw [h0]
    simp
  have kE := ext_all js m w _ _ _ _ _ _ hx hm HL.out ⟨HOK.out.pos, HOK.out.few⟩ HOK.out.ok js.length [] (List.replicate m 0) none _ _ _ Wm (Nat.zero_le _) (by simp) hP
  unfold ptrN at kE
  refine wpAnyH_ready (rs := [4]) (by kernel_rfl) (by simp) ?_
  refine AllReadyH.cons rfl (fun K hK => ?_) AllReadyH.nil
  unfold extV ptrN
  go_simp
  refine kE.mono ?_
  rintro e w5 ⟨rfl, hfr5, -, vb5, hst5, -⟩
  clear kE
  have hev5 := hP.ev.fr hx hfr5 (fun g e => (by cases e))
  obtain ⟨least, hb5, hl5, hs5⟩ := hst5
  have hS5 : w5.cell? ⟨Wa.heap.size + 1 + 1, 0, none⟩ = some (extV Wa.heap.size (Wa.heap.size + 1) w.heap.size (Wa.heap.size + 1 + 1)) ∧ w5.cell? ⟨w.heap.size, 0, none⟩ = some (.slice (some ⟨bJ, oJ, none⟩) js.length cap) := ⟨hev5.lx.cell (by rfl), hev5.lj.cell (by rfl)⟩
  obtain ⟨A5, n5, c5, hv5, hR5⟩ : ∃ (A5 : Option Addr) (n5 c5 : Nat), vb5 = .slice A5 n5 c5 ∧ BestR m js w.heap.size w5 vb5 := by
    unfold BestR bestP
    cases hbp : expl js js.length [] (List.replicate m 0) none with
    | none => rw [hbp] at hs5; exact ⟨none, 0, 0, hs5, hs5⟩
    | some x =>
      rw [hbp] at hs5
      obtain ⟨ho, hx0, -⟩ := hs5
      obtain ⟨A, c, hv⟩ := ho.sl.form
      exact ⟨A, _, c, hv, ho.lower (by omega), hx0⟩
  subst hv5
  have cb5 : w5.cell? ⟨Wa.heap.size, 0, none⟩ = some (.slice A5 n5 c5) := hb5.cell (by rfl)
  have HR5 := Lib.hid hR5
  have hBe := hev5.be
  go_wp2_with fail
  refine hK.out _ _ hS5 (fun _ => ?_)
  clear hK K
  refine wpAnyH_done (by kernel_rfl) ?_ _
  clear hR5 hs5 hb5 hl5 hev5 hfr5 hP hown hmake hsf
  go_wp2_with fail
  go_ret2
  exact ⟨⟨_, rfl, HR5.out⟩, hBe⟩
end Go.Proofs
