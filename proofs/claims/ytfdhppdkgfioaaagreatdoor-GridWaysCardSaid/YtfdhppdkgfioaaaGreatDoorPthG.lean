/- grid.Path. -/
import Derived.Test.YtfdhppdkgfioaaaGreatDoorStpG
import Derived.Test.YtfdhppdkgfioaaaGreatDoorPthA
import Derived.Test.YtfdhppdkgfioaaaGreatDoorPthB
import Derived.Test.YtfdhppdkgfioaaaGreatDoorRefC
namespace Go.Proofs
open Go.RowKit Go.Shelf
set_option maxHeartbeats 16000000
set_option maxRecDepth 1000000
attribute [local go_sem] Oper.semAt_some
/-- The way back: w the world at the call. -/
structure WayS (w : World) (Mb Lx Cb bm : Nat) (st : Cel → Option Nat) (m : Nat) (v : Value) (q : List Cel) (Ds : List Nat) (W : World) : Prop where
  mb : Boxed W Mb 95 (.map (some bm))
  stp : Steps W bm st
  cnt : Boxed W Cb 3 (.int .i64 (m : Int))
  pth : Boxed W Lx 22 v
  own : Own W w.heap.size v q
  hLx : w.heap.size ≤ Lx
  hCb : w.heap.size ≤ Cb
  defs : Defs W w.heap.size Ds
  below : Below w.heap.size w W
section
variable {w : World} {Mb Lx Cb bm : Nat} {st : Cel → Option Nat} {m : Nat} {v : Value} {q : List Cel} {Ds : List Nat} {W W' : World}
theorem WayS.step (h : WayS w Mb Lx Cb bm st m v q Ds W) (B : Nat) (hos : W'.os = W.os) (htape : W'.tape = W.tape) (hout : W'.output = W.output) (hsize : W.heap.size ≤ W'.heap.size)
    (hk : ∀ (k : Nat) (o : Obj), W.heap[k]? = some o → (o.isCells = true ∨ k < B) → W'.heap[k]? = some o) (hbm : bm < B) (hD : ∀ D ∈ Ds, D < B) (hB : w.heap.size ≤ B) : WayS w Mb Lx Cb bm st m v q Ds W' := by
  refine ⟨hk _ _ h.mb (.inl rfl), ?_, hk _ _ h.cnt (.inl rfl), hk _ _ h.pth (.inl rfl), ⟨h.own.1, h.own.2.imp id fun ⟨g, cap, cur, h1, h2, hg, r⟩ => ⟨g, cap, cur, h1, h2, hk g _ hg (.inl rfl), r⟩⟩, h.hLx, h.hCb, ⟨h.defs.1, fun D hDm => ⟨(h.defs.2 D hDm).1, hk _ _ (h.defs.2 D hDm).2 (.inr (hD D hDm))⟩⟩, h.below.trans ⟨hos, htape, hout, hsize, fun k h1 => ?_⟩⟩
  · obtain ⟨tl, ⟨es, clock, q1, q2⟩, q3⟩ := h.stp
    exact ⟨tl, ⟨es, clock, hk _ _ q1 (.inr hbm), q2⟩, q3⟩
  · obtain ⟨o, ho⟩ : ∃ o, W.heap[k]? = some o := ⟨_, Array.getElem?_eq_getElem (Nat.lt_of_lt_of_le h1 h.below.size)⟩
    rw [ho]
    exact hk _ _ ho (.inr (by omega))
theorem WayS.turn {row : Option Nat} (h : WayS w Mb Lx Cb bm st m v q Ds W) (B : Nat) (hg : W.grownBy W' row) (hr : ∀ r, row = some r → B ≤ r ∧ ∃ o : Obj, W.heap[r]? = some o ∧ o.isCells = false) (hbm : bm < B) (hD : ∀ D ∈ Ds, D < B) (hB : w.heap.size ≤ B) : WayS w Mb Lx Cb bm st m v q Ds W' :=
  h.step B hg.os hg.tape hg.output hg.size (fun k o hk ho => (hg.block k (Array.getElem?_eq_some_iff.1 hk).1 fun e => by
    obtain ⟨h1, o', h2, h3⟩ := hr k e.symm
    rcases ho with ho | ho
    · rw [hk] at h2
      cases h2
      rw [ho] at h3
      cases h3
    · omega).trans hk) hbm hD hB
theorem WayS.keep (h : WayS w Mb Lx Cb bm st m v q Ds W) (hg : Below W.heap.size W W') : WayS w Mb Lx Cb bm st m v q Ds W' :=
  h.step W.heap.size hg.os hg.tape hg.output hg.size (fun k _ hk _ => (hg.block k (Array.getElem?_eq_some_iff.1 hk).1).trans hk) h.stp.lt (fun _ hD => h.defs.lt hD) h.below.size
theorem WayS.count (h : WayS w Mb Lx Cb bm st (m + 1) v q Ds W) : WayS w Mb Lx Cb bm st m v q Ds (W.setCell ⟨Cb, 0, none⟩ (.int .i64 (m : Int))) := by
  have hne : ∀ (k : Nat) (o : Obj), W.heap[k]? = some o → o.isCells = false → (W.setCell ⟨Cb, 0, none⟩ (.int .i64 (m : Int))).heap[k]? = some o := fun k o hk ho => by
    refine (heap_setCell_other W ⟨Cb, 0, none⟩ k _ fun e => ?_).trans hk
    dsimp only at e
    rw [e, show W.heap[Cb]? = _ from h.cnt] at hk
    rw [← Option.some.inj hk] at ho
    cases ho
  refine ⟨Boxed.other h.mb (Boxed.ne h.mb h.cnt (by decide)) _, ?_, Boxed.set _ h.cnt, Boxed.other h.pth (Boxed.ne h.pth h.cnt (by decide)) _, World.ownsRow.kept h.own (grownBy_setCell' W Cb _) (.inr (Boxed.not_row h.cnt (by decide) h.own).symm), h.hLx, h.hCb, ⟨h.defs.1, fun D hD => ⟨(h.defs.2 D hD).1, hne _ _ (h.defs.2 D hD).2 rfl⟩⟩, h.below.setCell (p := ⟨Cb, 0, none⟩) h.hCb _⟩
  obtain ⟨tl, ⟨es, clock, q1, q2⟩, q3⟩ := h.stp
  exact ⟨tl, ⟨es, clock, hne _ _ q1 rfl, q2⟩, q3⟩
end
/-- No cell of a list is so many steps away. -/
def NoneAt (st : Cel → Option Nat) (m : Nat) (pre : List Cel) : Prop := ∀ d ∈ pre, st d ≠ some m
theorem NoneAt.snoc {st : Cel → Option Nat} {m : Nat} {pre : List Cel} {c : Cel} (h : NoneAt st m pre) (hc : st c ≠ some m) : NoneAt st m (pre ++ [c]) := fun d hd => by
  rcases List.mem_append.1 hd with h1 | h1
  · exact h d h1
  · rw [List.mem_singleton.1 h1]
    exact hc
/-- The first of the neighbours that is nearer has been found. -/
def FoundAt (st : Cel → Option Nat) (m : Nat) (pre : List Cel) (d : Cel) : Prop := ∃ pre', pre = pre' ++ [d] ∧ NoneAt st m pre' ∧ st d = some m
theorem FoundAt.find {st : Cel → Option Nat} {m : Nat} {pre l : List Cel} {d : Cel} (h : FoundAt st m pre d) (hp : pre <+: l) : l.find? (fun d => decide (st d = some m)) = some d := by
  obtain ⟨pre', rfl, h1, h2⟩ := h
  refine find_first _ _ pre'.length d (prefix_at hp) (decide_eq_true h2) fun q e hq he => decide_eq_false (h1 e ?_)
  obtain ⟨t, rfl⟩ := hp
  rw [List.append_assoc, List.getElem?_append_left hq] at he
  exact List.mem_of_getElem? he
def StopW (w : World) (Mb Lx Cb bm : Nat) (st : Cel → Option Nat) (m : Nat) (q : List Cel) (Ds : List Nat) (pre : List Cel) (W : World) : Prop := ∃ d v', FoundAt st m pre d ∧ WayS w Mb Lx Cb bm st (m + 1) v' (q ++ [d]) Ds W
theorem path_bad (l : List Cel) (v : Value) (a b : Cel) (w : World) (hl : Sl w v l) (hn : l.length ≤ 100000) (r1 r2 r3 : Int) (hr1 : chkI l = r1) (hr2 : memE l a = r2) (hr3 : memE l b = r3) (h0 : orI r1 r2 r3 ≠ 0) :
    Calls Tryz.prog 9 #[v, cellV a, cellV b] w fun e w' => e = .returned (.tuple #[.slice none 0 0, .int .i64 (orI r1 r2 r3)]) ∧ Below w.heap.size w w' := by
  obtain ⟨ax, ay, az⟩ := a
  obtain ⟨bx, by_, bz⟩ := b
  obtain ⟨W0, hW0⟩ : ∃ W, W = (w.alloc (.cells #[.int .i64 ax, .int .i64 ay, .int .i64 az] 24)).alloc (.cells #[.int .i64 bx, .int .i64 by_, .int .i64 bz] 24) := ⟨_, rfl⟩
  have hB0 : Below w.heap.size w W0 := by subst hW0; exact ((Below.refl _ _).alloc (Nat.le_refl _) _).alloc (by simp) _
  have hCa : Boxed3 W0 w.heap.size (ax, ay, az) := by subst hW0; exact (Below.heap_alloc _ _ _ (by simp)).trans (World.alloc_heap_new w _)
  have hCb : Boxed3 W0 (w.heap.size + 1) (bx, by_, bz) := by
    subst hW0
    have h := World.alloc_heap_new (w.alloc (.cells #[.int .i64 ax, .int .i64 ay, .int .i64 az] 24)) (.cells #[.int .i64 bx, .int .i64 by_, .int .i64 bz] 24)
    rw [World.size_alloc] at h
    exact h
  have hs0 : w.heap.size + 2 ≤ W0.heap.size := by subst hW0; simp
  have hl0 := hl.below hB0
  have kC := fun W (h : Below W0.heap.size W0 W) => gridCheckG l v W (hl0.below h) (by unfold maxLen; omega)
  have kA := fun W (h : Below W0.heap.size W0 W) => checkMember_ok l v (ax, ay, az) W (hl0.below h) (by omega)
  have kB := fun W (h : Below W0.heap.size W0 W) => checkMember_ok l v (bx, by_, bz) W (hl0.below h) (by omega)
  have hkA : ∀ W, Below W0.heap.size W0 W → Boxed3 W w.heap.size (ax, ay, az) := fun W h => (h.block _ (by omega)).trans hCa
  have hkB : ∀ W, Below W0.heap.size W0 W → Boxed3 W (w.heap.size + 1) (bx, by_, bz) := fun W h => (h.block _ (by omega)).trans hCb
  have kS : ∀ W, Below W0.heap.size W0 W → (W.cell? ⟨w.heap.size, 0, none⟩ = some (.int .i64 ax) ∧ W.cell? ⟨w.heap.size, 1, none⟩ = some (.int .i64 ay) ∧ W.cell? ⟨w.heap.size, 2, none⟩ = some (.int .i64 az)) ∧ W.cell? ⟨w.heap.size + 1, 0, none⟩ = some (.int .i64 bx) ∧ W.cell? ⟨w.heap.size + 1, 1, none⟩ = some (.int .i64 by_) ∧ W.cell? ⟨w.heap.size + 1, 2, none⟩ = some (.int .i64 bz) := fun W h => ⟨(hkA W h).cell, (hkB W h).cell⟩
  rw [hr1] at kC
  rw [hr2] at kA
  rw [hr3] at kB
  have kF := fun blk W k0 k1 k2 => first3_ok r1 r2 r3 blk 3 W k0 k1 k2
  have hX : Below W0.heap.size W0 W0.drew := (Below.refl _ _).drew
  have hS0 := kS _ hX
  obtain ⟨A, cap, rfl⟩ := hl.form
  unfold cellV at kA kB ⊢
  dsimp only at kA kB ⊢
  have hne : (orI r1 r2 r3 != 0) = true := by rw [bne_iff_ne]; exact h0
  generalize orI r1 r2 r3 = r at kF hne ⊢
  clear hl hl0 hCa hCb hkA hkB
  refine (callsIn_wide (n := 3)).1 ?_
  refine callsIn_of_wp_marks Tryz.func9 rfl trivial ?_ rfl
  simp only [Tryz.ntmps9, List.size_toArray, List.length_cons, List.length_nil, Nat.reduceAdd, Nat.reduceSub, Array.replicate_succ, Array.replicate_zero, List.push_toArray, List.append_toArray, List.nil_append, List.cons_append]
  gi_wp2
  rw [← hW0]
  clear hW0
  try refine wpIn_scope_straight ?_
  gi_wp2
  refine wpIn_wide.2 ?_
  go_region_held3 (fun W => (W.cell? ⟨w.heap.size, 0, none⟩ = some (.int .i64 ax) ∧ W.cell? ⟨w.heap.size, 1, none⟩ = some (.int .i64 ay) ∧ W.cell? ⟨w.heap.size, 2, none⟩ = some (.int .i64 az)) ∧ W.cell? ⟨w.heap.size + 1, 0, none⟩ = some (.int .i64 bx) ∧ W.cell? ⟨w.heap.size + 1, 1, none⟩ = some (.int .i64 by_) ∧ W.cell? ⟨w.heap.size + 1, 2, none⟩ = some (.int .i64 bz)) (first | exact hS0 | exact hS1 | exact kS _ (hX.alloc hX.size _) | go_keep) (first
    | (go_at_call 49; refine (kC _ hX).mono ?_; rintro e w1 ⟨rfl, hB⟩; replace hX := hX.trans (hB.mono hX.size); have hS1 := kS _ hX; clear hB)
    | (go_at_call 54; first
        | (with_reducible refine (kA _ hX).mono ?_; rintro e w2 ⟨rfl, hB⟩; replace hX := hX.trans (hB.mono hX.size); have hS1 := kS _ hX; clear hB)
        | (with_reducible refine (kB _ hX).mono ?_; rintro e w3 ⟨rfl, hB⟩; replace hX := hX.trans (hB.mono hX.size); have hS1 := kS _ hX; clear hB))
    | (go_at_call 53; refine (kF _ _ (by go_simp) (by go_simp) (by go_simp)).mono ?_; rintro e w4 ⟨rfl, hw4⟩; obtain rfl := hw4))
  have hX4 : Below w.heap.size w (w3.alloc (.cells #[.int .i64 r1, .int .i64 r2, .int .i64 r3] 28)) := hB0.trans ((hX.alloc hX.size _).mono hB0.size)
  rename_i hHeld
  clear hHeld hS0 hS1 kS kC kA kB kF hX
  gi_wp2
  exact ⟨_, results_tmp2 rfl _ _ _, rfl, hX4⟩
theorem path_ok (l : List Cel) (v : Value) (a b : Cel) (w : World) (hl : Sl w v l) (hr1 : chkI l = 0) (ha : a ∈ l) (hb : b ∈ l) :
    Calls Tryz.prog 9 #[v, cellV a, cellV b] w fun e w' => (pathC l a b = none ∧ e = .returned (.tuple #[.slice none 0 0, .int .i64 7]) ∨ ∃ p v', pathC l a b = some p ∧ e = .returned (.tuple #[v', .int .i64 0]) ∧ Own w' w.heap.size v' p) ∧ Below w.heap.size w w' := by
  obtain ⟨hlen, hnear0, hup⟩ := chkI_zero.1 hr1
  have hn : l.length ≤ 100000 := by omega
  have hmem : ∀ c ∈ l, memE l c = 0 := fun c hc => by
    unfold memE
    rw [badC_near.2 (hnear0 c hc), if_neg (by simp), if_pos hc]
  have hr2 := hmem a ha
  have hr3 := hmem b hb
  obtain ⟨r1, e1⟩ : ∃ r : Int, r = 0 := ⟨_, rfl⟩
  obtain ⟨r2, e2⟩ : ∃ r : Int, r = 0 := ⟨_, rfl⟩
  obtain ⟨r3, e3⟩ : ∃ r : Int, r = 0 := ⟨_, rfl⟩
  rw [← e1] at hr1
  rw [← e2] at hr2
  rw [← e3] at hr3
  have hor : orI r1 r2 r3 = 0 := by rw [e1, e2, e3]; rfl
  have HE1 := Lib.hid e1
  clear e1 e2 e3 hmem
  obtain ⟨ax, ay, az⟩ := a
  obtain ⟨bx, by_, bz⟩ := b
  obtain ⟨W0, hW0⟩ : ∃ W, W = (w.alloc (.cells #[.int .i64 ax, .int .i64 ay, .int .i64 az] 24)).alloc (.cells #[.int .i64 bx, .int .i64 by_, .int .i64 bz] 24) := ⟨_, rfl⟩
  have hB0 : Below w.heap.size w W0 := by subst hW0; exact ((Below.refl _ _).alloc (Nat.le_refl _) _).alloc (by simp) _
  have hCa : Boxed3 W0 w.heap.size (ax, ay, az) := by subst hW0; exact (Below.heap_alloc _ _ _ (by simp)).trans (World.alloc_heap_new w _)
  have hCb : Boxed3 W0 (w.heap.size + 1) (bx, by_, bz) := by
    subst hW0
    have h := World.alloc_heap_new (w.alloc (.cells #[.int .i64 ax, .int .i64 ay, .int .i64 az] 24)) (.cells #[.int .i64 bx, .int .i64 by_, .int .i64 bz] 24)
    rw [World.size_alloc] at h
    exact h
  have hs0 : w.heap.size + 2 ≤ W0.heap.size := by subst hW0; simp
  have hl0 := hl.below hB0
  have kC := fun W (h : Below W0.heap.size W0 W) => gridCheckG l v W (hl0.below h) (by unfold maxLen; omega)
  have kA := fun W (h : Below W0.heap.size W0 W) => checkMember_ok l v (ax, ay, az) W (hl0.below h) (by omega)
  have kB := fun W (h : Below W0.heap.size W0 W) => checkMember_ok l v (bx, by_, bz) W (hl0.below h) (by omega)
  have hkA : ∀ W, Below W0.heap.size W0 W → Boxed3 W w.heap.size (ax, ay, az) := fun W h => (h.block _ (by omega)).trans hCa
  have hkB : ∀ W, Below W0.heap.size W0 W → Boxed3 W (w.heap.size + 1) (bx, by_, bz) := fun W h => (h.block _ (by omega)).trans hCb
  have kS : ∀ W, Below W0.heap.size W0 W → (W.cell? ⟨w.heap.size, 0, none⟩ = some (.int .i64 ax) ∧ W.cell? ⟨w.heap.size, 1, none⟩ = some (.int .i64 ay) ∧ W.cell? ⟨w.heap.size, 2, none⟩ = some (.int .i64 az)) ∧ W.cell? ⟨w.heap.size + 1, 0, none⟩ = some (.int .i64 bx) ∧ W.cell? ⟨w.heap.size + 1, 1, none⟩ = some (.int .i64 by_) ∧ W.cell? ⟨w.heap.size + 1, 2, none⟩ = some (.int .i64 bz) := fun W h => ⟨(hkA W h).cell, (hkB W h).cell⟩
  rw [hr1] at kC
  rw [hr2] at kA
  rw [hr3] at kB
  have kF := fun blk W k0 k1 k2 => first3_ok r1 r2 r3 blk 3 W k0 k1 k2
  have hX : Below W0.heap.size W0 W0.drew := (Below.refl _ _).drew
  have hS0 := kS _ hX
  obtain ⟨A, cap, rfl⟩ := hl.form
  unfold cellV at kA kB ⊢
  dsimp only at kA kB ⊢
  rw [hor] at kF
  have qT := fun W (h : Below W0.heap.size W0 W) => stepsTo_ok (bx, by_, bz) (ax, ay, az) l (.slice A l.length cap) W (hl0.below h) hlen (fun c hc => (hnear0 c hc).mono (by omega)) hb
  unfold cellV at qT
  dsimp only at qT
  clear hor hl hl0
  refine (callsIn_wide (n := 3)).1 ?_
  refine callsIn_of_wp_marks Tryz.func9 rfl trivial ?_ rfl
  simp only [Tryz.ntmps9, List.size_toArray, List.length_cons, List.length_nil, Nat.reduceAdd, Nat.reduceSub, Array.replicate_succ, Array.replicate_zero, List.push_toArray, List.append_toArray, List.nil_append, List.cons_append]
  gi_wp2
  rw [← hW0]
  clear hW0
  try refine wpIn_scope_straight ?_
  gi_wp2
  refine wpIn_wide.2 ?_
  go_region_held3 (fun W => (W.cell? ⟨w.heap.size, 0, none⟩ = some (.int .i64 ax) ∧ W.cell? ⟨w.heap.size, 1, none⟩ = some (.int .i64 ay) ∧ W.cell? ⟨w.heap.size, 2, none⟩ = some (.int .i64 az)) ∧ W.cell? ⟨w.heap.size + 1, 0, none⟩ = some (.int .i64 bx) ∧ W.cell? ⟨w.heap.size + 1, 1, none⟩ = some (.int .i64 by_) ∧ W.cell? ⟨w.heap.size + 1, 2, none⟩ = some (.int .i64 bz)) (first | exact hS0 | exact hS1 | exact kS _ (hX.alloc hX.size _) | go_keep) (first
    | (go_at_call 49; refine (kC _ hX).mono ?_; rintro e w1 ⟨rfl, hB⟩; replace hX := hX.trans (hB.mono hX.size); have hS1 := kS _ hX; clear hB)
    | (go_at_call 54; first
        | (with_reducible refine (kA _ hX).mono ?_; rintro e w2 ⟨rfl, hB⟩; replace hX := hX.trans (hB.mono hX.size); have hS1 := kS _ hX; clear hB)
        | (with_reducible refine (kB _ hX).mono ?_; rintro e w3 ⟨rfl, hB⟩; replace hX := hX.trans (hB.mono hX.size); have hS1 := kS _ hX; clear hB))
    | (go_at_call 53; refine (kF _ _ (by go_simp) (by go_simp) (by go_simp)).mono ?_; rintro e w4 ⟨rfl, hw4⟩; obtain rfl := hw4))
  rename_i hHeld
  clear hHeld hS0 hS1 kC kA kB kF
  have hX4 : Below W0.heap.size W0 (w3.alloc (.cells #[.int .i64 r1, .int .i64 r2, .int .i64 r3] 28)) := hX.alloc hX.size _
  generalize w3.alloc (.cells #[.int .i64 r1, .int .i64 r2, .int .i64 r3] 28) = w5 at hX4 ⊢
  obtain ⟨⟨a0, a1, a2⟩, b0, b1, b2⟩ := kS _ hX4
  have q := qT _ hX4
  clear qT hX
  gi_wp2
  refine ⟨trivial, (callsIn_wide.2 q).mono ?_⟩
  rintro e w6 ⟨bm, st, rfl, hst, hout, hB6⟩
  have hX6 := hX4.trans (hB6.mono hX4.size)
  have hw6 : Below w.heap.size w w6 := hB0.trans (hX6.mono hB0.size)
  have hs6 : w.heap.size + 2 ≤ w6.heap.size := by have := hX6.size; omega
  have hX7 : Below w6.heap.size w6 (w6.alloc (.cells #[.map (some bm)] 95)) := below_alloc _ _
  obtain ⟨⟨c0, c1, c2⟩, -, -, -⟩ := kS _ (hX6.trans (hX7.mono hX6.size))
  have hst7 : Steps (w6.alloc (.cells #[.map (some bm)] 95)) bm st := hst.keep (hX7.block _ hst.lt)
  clear q a0 a1 a2 b0 b1 b2
  cases hs : st (ax, ay, az) with
  | none =>
    have lk := look_none hst7 hs true
    unfold cellV at lk
    dsimp only at lk
    have hP : pathC l (ax, ay, az) (bx, by_, bz) = none := by unfold pathC; rw [hout.1 hs]; rfl
    have HP := Lib.hid hP
    have hX8 : Below w.heap.size w (w6.alloc (.cells #[.map (some bm)] 95)) := hw6.trans (hX7.mono hw6.size)
    have hX9 : Below w.heap.size w ((w6.alloc (.cells #[.map (some bm)] 95)).alloc (.cells #[.int .i64 0] 3)) := hX8.alloc hX8.size _
    clear hs hP hout
    gi_wp2
    exact ⟨_, results_tmp2 rfl _ _ _, .inl ⟨HP.out, rfl⟩, hX9⟩
  | some n =>
    have lk := look_some hst7 hs true
    unfold cellV at lk
    dsimp only at lk
    obtain ⟨hsC, hkn⟩ := hout.2 n hs
    have hP := pathC_known hkn hsC
    have hnl := pathC_len hb hsC
    have HP := Lib.hid hP
    have HS := Lib.hid (And.intro hs hsC)
    have hX8 : Below w6.heap.size w6 ((w6.alloc (.cells #[.map (some bm)] 95)).alloc (.cells #[.int .i64 (n : Int)] 3)) := hX7.alloc hX7.size _
    obtain ⟨⟨d0, d1, d2⟩, -, -, -⟩ := kS _ (hX6.trans (hX8.mono hX6.size))
    clear hs hP hout hsC
    gi_wp2
    have hM9 : Boxed ((((w6.alloc (.cells #[.map (some bm)] 95)).alloc (.cells #[.int .i64 (n : Int)] 3)).alloc (.cells #[.int .i64 ax, .int .i64 ay, .int .i64 az] 24)).alloc (.cells #[.slice (some ⟨w6.heap.size + 1 + 1, 0, none⟩) 1 1] 22)) w6.heap.size 95 (.map (some bm)) := (((Boxed.new _ _ _).alloc _).alloc _).alloc _
    have hC9 : Boxed ((((w6.alloc (.cells #[.map (some bm)] 95)).alloc (.cells #[.int .i64 (n : Int)] 3)).alloc (.cells #[.int .i64 ax, .int .i64 ay, .int .i64 az] 24)).alloc (.cells #[.slice (some ⟨w6.heap.size + 1 + 1, 0, none⟩) 1 1] 22)) (w6.heap.size + 1) 3 (.int .i64 (n : Int)) := by
      have h := Boxed.new (w6.alloc (.cells #[.map (some bm)] 95)) 3 (.int .i64 (n : Int))
      rw [World.size_alloc] at h
      exact (h.alloc _).alloc _
    have hO9 : Own ((((w6.alloc (.cells #[.map (some bm)] 95)).alloc (.cells #[.int .i64 (n : Int)] 3)).alloc (.cells #[.int .i64 ax, .int .i64 ay, .int .i64 az] 24)).alloc (.cells #[.slice (some ⟨w6.heap.size + 1 + 1, 0, none⟩) 1 1] 22)) w.heap.size (.slice (some ⟨w6.heap.size + 1 + 1, 0, none⟩) 1 1) [(ax, ay, az)] := by
      have h : Own (((w6.alloc (.cells #[.map (some bm)] 95)).alloc (.cells #[.int .i64 (n : Int)] 3)).alloc (.cells #[.int .i64 ax, .int .i64 ay, .int .i64 az] 24)) w.heap.size (.slice (some ⟨((w6.alloc (.cells #[.map (some bm)] 95)).alloc (.cells #[.int .i64 (n : Int)] 3)).heap.size, 0, none⟩) 1 1) [(ax, ay, az)] := World.ownsRow_lit ((w6.alloc (.cells #[.map (some bm)] 95)).alloc (.cells #[.int .i64 (n : Int)] 3)) _ 1 (by simp; omega) (by unfold maxLen; omega) rfl
      rw [World.size_alloc, World.size_alloc] at h
      exact h.alloc _
    have hL9 : Boxed ((((w6.alloc (.cells #[.map (some bm)] 95)).alloc (.cells #[.int .i64 (n : Int)] 3)).alloc (.cells #[.int .i64 ax, .int .i64 ay, .int .i64 az] 24)).alloc (.cells #[.slice (some ⟨w6.heap.size + 1 + 1, 0, none⟩) 1 1] 22)) (w6.heap.size + 1 + 1 + 1) 22 (.slice (some ⟨w6.heap.size + 1 + 1, 0, none⟩) 1 1) := by
      have h := Boxed.new (((w6.alloc (.cells #[.map (some bm)] 95)).alloc (.cells #[.int .i64 (n : Int)] 3)).alloc (.cells #[.int .i64 ax, .int .i64 ay, .int .i64 az] 24)) 22 (.slice (some ⟨w6.heap.size + 1 + 1, 0, none⟩) 1 1)
      rw [World.size_alloc, World.size_alloc, World.size_alloc] at h
      exact h
    have hX9 : Below w6.heap.size w6 ((((w6.alloc (.cells #[.map (some bm)] 95)).alloc (.cells #[.int .i64 (n : Int)] 3)).alloc (.cells #[.int .i64 ax, .int .i64 ay, .int .i64 az] 24)).alloc (.cells #[.slice (some ⟨w6.heap.size + 1 + 1, 0, none⟩) 1 1] 22)) := (hX8.alloc hX8.size _).alloc (by simp; omega) _
    generalize ((((w6.alloc (.cells #[.map (some bm)] 95)).alloc (.cells #[.int .i64 (n : Int)] 3)).alloc (.cells #[.int .i64 ax, .int .i64 ay, .int .i64 az] 24)).alloc (.cells #[.slice (some ⟨w6.heap.size + 1 + 1, 0, none⟩) 1 1] 22)) = W9 at hM9 hC9 hO9 hL9 hX9 ⊢
    have hbm : w.heap.size ≤ bm ∨ True := .inr trivial
    have ws0 : WayS w w6.heap.size (w6.heap.size + 1 + 1 + 1) (w6.heap.size + 1) bm st n (.slice (some ⟨w6.heap.size + 1 + 1, 0, none⟩) 1 1) [(ax, ay, az)] [] W9 :=
      ⟨hM9, hst.keep (hX9.block _ hst.lt), hC9, hL9, hO9, by omega, by omega, Defs.nil _ _, hw6.trans (hX9.mono hw6.size)⟩
    clear hbm hM9 hC9 hO9 hL9 hX9 d0 d1 d2 c0 c1 c2 lk hst7 hst hX8 hX7 kS hX6 hX4 hkA hkB hCa hCb hw6
    generalize w6.heap.size + 1 + 1 + 1 = Lx at ws0 ⊢
    generalize w6.heap.size + 1 + 1 = Rb at ws0 ⊢
    generalize w6.heap.size + 1 = Cb at ws0 ⊢
    generalize w6.heap.size = Mb at ws0 ⊢
    refine wpIn_loop (fun a W => ∃ (m : Nat) (v : Value) (p : List Cel) (c : Cel) (Ds : List Nat) (u0 u1 u2 u3 u8 u11 u13 u14 u15 u16 u17 u18 u19 u20 u21 u22 u23 u24 u25 u26 u27 u28 u29 u30 u31 u32 u33 u34 u35 u36 u37 u38 u39 u40 u41 u42 u43 u44 u45 u46 u47 u48 u49 u50 u51 u52 u53 u54 u55 u56 u57 u58 u59 u60 u61 u62 u63 u64 u65 u66 u67 u68 u69 u70 u71 u72 : Value), a = { tmps := #[u0, u1, u2, u3, .pointer (some ⟨w.heap.size, 0, none⟩), .pointer (some ⟨w.heap.size + 1, 0, none⟩), .slice none 0 0, .int .i64 0, u8, .pointer (some ⟨Mb, 0, none⟩), .pointer (some ⟨Cb, 0, none⟩), u11, .pointer (some ⟨Lx, 0, none⟩), u13, u14, u15, u16, u17, u18, u19, u20, u21, u22, u23, u24, u25, u26, u27, u28, u29, u30, u31, u32, u33, u34, u35, u36, u37, u38, u39, u40, u41, u42, u43, u44, u45, u46, u47, u48, u49, u50, u51, u52, u53, u54, u55, u56, u57, u58, u59, u60, u61, u62, u63, u64, u65, u66, u67, u68, u69, u70, u71, u72], defers := Ds.map coll } ∧ WayS w Mb Lx Cb bm st m v (p ++ [c]) Ds W ∧ m ≤ n ∧ p.length + m = n ∧ st c = some m ∧ stC l (bx, by_, bz) c = some m ∧ pathF nearL st n (ax, ay, az) = p ++ pathF nearL st m c) (fun a W => idxOf a W 10) ?start ?round
    case start => exact ⟨n, _, [], (ax, ay, az), [], _, _, _, _, _, _, _, _, _, _, _, _, _, _, _, _, _, _, _, _, _, _, _, _, _, _, _, _, _, _, _, _, _, _, _, _, _, _, _, _, _, _, _, _, _, _, _, _, _, _, _, _, _, _, _, _, _, _, _, _, _, _, _, _, _, _, rfl, ws0, Nat.le_refl _, by simp, HS.out.1, HS.out.2, rfl⟩
    case round =>
      clear ws0
      rintro a W ⟨m, v, p, c, Ds, u0, u1, u2, u3, u8, u11, u13, u14, u15, u16, u17, u18, u19, u20, u21, u22, u23, u24, u25, u26, u27, u28, u29, u30, u31, u32, u33, u34, u35, u36, u37, u38, u39, u40, u41, u42, u43, u44, u45, u46, u47, u48, u49, u50, u51, u52, u53, u54, u55, u56, u57, u58, u59, u60, u61, u62, u63, u64, u65, u66, u67, u68, u69, u70, u71, u72, rfl, st1, hmn, hpm, hsc, hcc, hpath⟩
      have hro : Fence.wide.round = none := rfl
      have h1 : 1 ≤ 3 := by omega
      have hform := st1.own.sl.form
      have cC := st1.cnt.cell
      have cL := st1.pth.cell
      have HPM := Lib.hid hpm
      have HPA := Lib.hid hpath
      have HSC := Lib.hid (And.intro hsc hcc)
      have hplen : p.length ≤ 4096 := by omega
      clear hpath hpm hsc
      cases m with
      | zero =>
        obtain ⟨q, hq⟩ : ∃ q, q = p ++ [c] := ⟨_, rfl⟩
        rw [← hq] at st1 hform
        have HQ0 := Lib.hid hq
        clear hq
        have hown := st1.own
        have hdf := st1.defs
        have hbl := st1.below
        obtain ⟨Ao, co, rfl⟩ := hform
        clear st1
        gi_wp2
        refine leaves_all (B := w.heap.size) Ds _ hdf fun W' hW' => ?_
        refine ⟨_, results_tmp2 rfl _ _ _, .inr ⟨_, _, HP.out, rfl, ?_⟩, hbl.trans ⟨hW'.os, hW'.tape, hW'.output, Nat.le_of_eq hW'.size.symm, hW'.below⟩⟩
        rw [HPA.out]
        show Own _ _ _ (p ++ [c])
        rw [← HQ0.out]
        exact Own.spent hown hW'
      | succ m =>
        obtain ⟨x, y, z⟩ := c
        obtain ⟨q, hq⟩ : ∃ q, q = p ++ [(x, y, z)] := ⟨_, rfl⟩
        rw [← hq] at st1 hform
        obtain ⟨Ao, co, rfl⟩ := hform
        have hql : q.length = p.length + 1 := by rw [hq]; simp
        have hqp : p.length < q.length := by omega
        have hqn : q.length ≤ 5000 := by omega
        obtain ⟨bo, oo, x', y', z', rfl, -, hbo, ho, o0, o1, o2⟩ := st1.own.sl.cells hqp
        obtain ⟨rfl, rfl, rfl⟩ : x' = x ∧ y' = y ∧ z' = z := by
          rw [hq, List.getElem?_append_right (Nat.le_refl _), Nat.sub_self] at ho
          have h := Option.some.inj ho
          injection h with h1 h2
          injection h2 with h2 h3
          exact ⟨h1.symm, h2.symm, h3.symm⟩
        have wl : IntKind.i64.wrap ((q.length : Int) - 1) = (p.length : Int) := by rw [wrapS (by omega)]; omega
        have hp0 : (0 : Int) ≤ p.length := by omega
        have hp1 : (p.length : Int) < q.length := by omega
        have hm1 : (0 : Int) < ((m + 1 : Nat) : Int) := by omega
        have wm : IntKind.i64.wrap (((m + 1 : Nat) : Int) - 1) = (m : Int) := by rw [wrapS (by omega)]; omega
        have HQ := Lib.hid (And.intro hq hql)
        have hxl : (x', y', z') ∈ l := stC_mem hb hcc
        have hnk : Near (x', y', z') 2000 := (hnear0 _ hxl).mono (by omega)
        have hfind := hkn.find hmn hcc
        have HFI := Lib.hid hfind
        have qN := neighbours_ok (x', y', z') W
        have hszW : w.heap.size ≤ W.heap.size := st1.below.size
        unfold cellV at qN
        dsimp only at qN
        clear hq hql ho hxl hqp hfind hcc
        gi_wp2
        refine ⟨trivial, (callsIn_wide.2 qN).mono ?_⟩
        rintro e W3 ⟨rfl, hW3⟩
        have hN3 : W3.heap[W.heap.size]? = some (.cells (boxC (x', y', z')) 24 (0, 0)) := by rw [hW3]; exact World.alloc_heap_new W _
        have hX3 : Below W.heap.size W W3 := by rw [hW3]; exact (Below.refl _ _).alloc (Nat.le_refl _) _
        have hs3 : W3.heap.size = W.heap.size + 1 := by rw [hW3]; simp
        have st3 := st1.keep hX3
        have hnotB : (Value.slice (some ⟨bo, oo, none⟩) q.length co).ownBlock ≠ some W.heap.size := fun e => by
          have := (st1.own.lt _ e).2
          omega
        have hbmW : bm < W.heap.size := st1.stp.lt
        have hLxW : Lx < W.heap.size := st1.pth.lt
        have HCW := Lib.hid cC
        clear qN hW3 hX3 st1 o0 o1 o2 cC cL
        gi_wp2
        have hBn : W.heap.size < W3.heap.size := by omega
        clear hs3
        refine wpIn_rangeFunc_ownH hro h1 (gf := 114) (lb := #[.pointer (some ⟨W.heap.size, 0, none⟩)]) rfl trivial enters_nb
          (neighbours_stopsK Fence.wide 2 trivial rfl (by omega) W.heap.size (x', y', z') hnk (fun X Y => Y.heap[W.heap.size]? = X.heap[W.heap.size]?) (fun _ _ h => h) W3 hBn hN3) (fun h1 h2 => h2.trans h1) (fun X ll _ _ hll _ _ _ => putObj_other X ll _ _ (by omega)) (Below.refl _ _) (fun _ => rfl)
          (fun pre Wr => NoneAt st m pre ∧ WayS w Mb Lx Cb bm st (m + 1) (.slice (some ⟨bo, oo, none⟩) q.length co) q Ds Wr ∧ W3.heap.size ≤ Wr.heap.size)
          (fun c pre Wr => ∃ W', (W3.heap.size ≤ W'.heap.size ∧ c = .exit 2 ∧ StopW w Mb Lx Cb bm st m q Ds pre W') ∧ Frame3 W3.heap.size W' Wr)
          (fun pre X Y row hs hg hr => by
            obtain ⟨m0, m1, m3⟩ := hs
            exact ⟨m0, m1.turn W3.heap.size hg hr (by omega) (fun _ hD => st3.defs.lt hD) (by omega), Nat.le_trans m3 hg.size⟩)
          (fun c => frame_own (fun _ _ h => h.1))
          ⟨fun d hd => by simp at hd, st3, Nat.le_refl _⟩
          (fun d a' Wr => ∃ Bx, W3.heap.size ≤ Bx ∧ Boxed3 Wr Bx d ∧ a' = { tmps := #[u0, u1, u2, u3, .pointer (some ⟨w.heap.size, 0, none⟩), .pointer (some ⟨w.heap.size + 1, 0, none⟩), .slice none 0 0, .int .i64 0, u8, .pointer (some ⟨Mb, 0, none⟩), .pointer (some ⟨Cb, 0, none⟩), u11, .pointer (some ⟨Lx, 0, none⟩), .pointer (some ⟨Bx, 0, none⟩), u14, u15, u16, u17, u18, u19, u20, u21, u22, u23, u24, u25, u26, u27, u28, u29, u30, u31, u32, u33, u34, u35, u36, u37, u38, u39, u40, u41, u42, .int .i64 ((m + 1 : Nat) : Int), .bool true, u45, u46, .slice (some ⟨bo, oo, none⟩) q.length co, .slice (some ⟨bo, oo, none⟩) q.length co, .int .i64 q.length, .int .i64 p.length, .pointer (some ⟨bo, oo + p.length * 3, none⟩), cellV (x', y', z'), .func (.func 114) #[] #[.pointer (some ⟨W.heap.size, 0, none⟩)], cellV d, u55, u56, u57, u58, u59, u60, u61, u62, u63, u64, u65, u66, u67, u68, u69, u70, u71, u72], defers := [] })
          (fun d a' _ X Y row hs hg hr => by obtain ⟨Bx, g1, g2, g3⟩ := hs; exact ⟨Bx, g1, Boxed3.own Bx (fun (_ : Unit) => d) () X Y row g2 hg (fun r e => (hr r e).2), g3⟩)
          ?assign ?body ?done ?stop
        case assign =>
          rintro ll pre ⟨dx, dy, dz⟩ Wr K ⟨m0, m1, m3⟩ hK
          unfold cellV at hK ⊢
          dsimp only at hK ⊢
          gi_wp2
          exact hK _ _ ((KeepsOthers.alloc _ _).from _) ((below_alloc Wr _).block _ (by omega)) ⟨m0, m1.keep (below_alloc Wr _), Nat.le_trans m3 (by simp)⟩ ⟨Wr.heap.size, m3, World.alloc_heap_new Wr _, rfl⟩
        case body =>
          rintro ll pre ⟨dx, dy, dz⟩ a' Wr hl' ⟨r, hr⟩ ⟨m0, m1, m3⟩ ⟨Bx, hBx, bx2, rfl⟩ hlt2
          have cMb := m1.mb.cell
          have cC := m1.cnt.cell
          obtain ⟨c0, c1, c2⟩ := bx2.cell
          dsimp only at c0 c1 c2
          have hStp := m1.stp
          clear hr hnk
          cases hst : st (dx, dy, dz) with
          | some n' =>
            have lk := look_some hStp hst true
            unfold cellV at lk
            dsimp only at lk
            by_cases hnm : n' = m
            · subst hnm
              have HST := Lib.hid hst
              have cL := m1.pth.cell
              have hL4 := m1.pth
              have hown4 := m1.own
              clear hst
              gi_wp2_with (gi_at_builtin; (refine wpListIn_append_one rfl _ _ rfl w.heap.size m1.below.size (.slice (some ⟨bo, oo, none⟩) q.length co) q rfl hown4 (dx, dy, dz) rfl (by omega) ?_; intro v9 w5 hown' hgrow hat hform; obtain ⟨g', cap', rfl⟩ := hform; obtain ⟨hv1, hv2, hr2, hk2, hb2⟩ := Boxed.appended hL4 (by decide) hown4 m1.below.size m1.hLx hown' hgrow; have cv1 := hv1.cell; have fv1 := hv1.frozen))
              have tM := (Boxed.kept (Boxed.alloc m1.mb (.cells #[.int .i64 dx, .int .i64 dy, .int .i64 dz] 24)) hgrow (Boxed.not_row m1.mb (by decide) hown4)).other (Boxed.ne m1.mb hL4 (by decide)) (.slice (some ⟨g', 0, none⟩) (q.length + 1) cap')
              have tC := (Boxed.kept (Boxed.alloc m1.cnt (.cells #[.int .i64 dx, .int .i64 dy, .int .i64 dz] 24)) hgrow (Boxed.not_row m1.cnt (by decide) hown4)).other (Boxed.ne m1.cnt hL4 (by decide)) (.slice (some ⟨g', 0, none⟩) (q.length + 1) cap')
              have tS : Steps (w5.setCell ⟨Lx, 0, none⟩ (.slice (some ⟨g', 0, none⟩) (q.length + 1) cap')) bm st := by
                obtain ⟨tl, ⟨es, clock, q1, q2⟩, q3⟩ := hStp
                exact ⟨tl, ⟨es, clock, hk2.same _ _ q1 rfl, q2⟩, q3⟩
              have tW : WayS w Mb Lx Cb bm st (n' + 1) (.slice (some ⟨g', 0, none⟩) (q.length + 1) cap') (q ++ [(dx, dy, dz)]) Ds (w5.setCell ⟨Lx, 0, none⟩ (.slice (some ⟨g', 0, none⟩) (q.length + 1) cap')) :=
                ⟨tM, tS, tC, hv2, hr2, m1.hLx, m1.hCb, ⟨m1.defs.1, fun D hD => ⟨(m1.defs.2 D hD).1, hk2.same _ _ (m1.defs.2 D hD).2 rfl⟩⟩, m1.below.trans hb2⟩
              exact ⟨hk2.from _, _, ⟨Nat.le_trans m3 hk2.size, rfl, ⟨(dx, dy, dz), _, ⟨pre, rfl, m0, HST.out⟩, tW⟩⟩, Frame3.refl _ _⟩
            · have hne : ((n' : Int) == (m : Int)) = false := by rw [beq_eq_false_iff_ne]; omega
              have HST := Lib.hid hst
              clear hst
              gi_wp2
              exact ⟨KeepsFrom.refl _ _, rfl, m0.snoc (fun e => hnm (Option.some.inj (HST.out.symm.trans e))), m1, m3⟩
          | none =>
            have lk := look_none hStp hst true
            unfold cellV at lk
            dsimp only at lk
            have HST := Lib.hid hst
            clear hst
            gi_wp2
            exact ⟨KeepsFrom.refl _ _, rfl, m0.snoc (fun e => by rw [HST.out] at e; cases e), m1, m3⟩
        case done =>
          rintro D ys Wr hD rfl ⟨m0, m1, m3⟩ hK
          obtain ⟨d, hd, hs⟩ := HFI.out
          exact absurd hs (m0 d hd)
        case stop =>
          rintro D c pre Wr hD hpre ⟨W', ⟨hsz', rfl, ⟨d, v', hfo, m1⟩⟩, hF⟩ hK
          have hfi := hfo.find hpre
          have mr := m1.step W3.heap.size hF.os hF.tape hF.output hF.size (fun k o hk ho => ho.elim (hF.cells k o hk) (fun h => (hF.below k h).trans hk)) (by omega) (fun D hD => st3.defs.lt hD) (by omega)
          have hdd : Defs Wr w.heap.size (D :: Ds) := by
            refine ⟨List.nodup_cons.2 ⟨fun h => ?_, mr.defs.1⟩, fun E hE => ?_⟩
            · have := st3.defs.lt h
              omega
            · rcases List.mem_cons.1 hE with rfl | hE
              · exact ⟨by omega, hK⟩
              · exact mr.defs.2 E hE
          have md : WayS w Mb Lx Cb bm st (m + 1) v' (q ++ [d]) (D :: Ds) Wr := { mr with defs := hdd }
          have mc := md.count
          have cC := md.cnt.cell
          have fC := md.cnt.frozen
          obtain ⟨pre', -, -, hsd⟩ := hfo
          have hR : m ≤ n ∧ q.length + m = n ∧ st d = some m ∧ stC l (bx, by_, bz) d = some m ∧ pathF nearL st n (ax, ay, az) = q ++ pathF nearL st m d := by
            refine ⟨by omega, by have := HQ.out.2; have := HPM.out; omega, hsd, (hkn.low d m (by omega)).1 hsd, ?_⟩
            rw [HPA.out, pathF_next hfi, HQ.out.1, List.append_assoc]
            rfl
          have HR := Lib.hid hR
          have HCN := Lib.hid mc.cnt.cell
          clear hfi hsd hR mr m1 hnk
          gi_wp2
          refine ⟨⟨m, v', q, d, D :: Ds, _, _, _, _, _, _, _, _, _, _, _, _, _, _, _, _, _, _, _, _, _, _, _, _, _, _, _, _, _, _, _, _, _, _, _, _, _, _, _, _, _, _, _, _, _, _, _, _, _, _, _, _, _, _, _, _, _, _, _, _, _, _, _, _, _, _, rfl, mc, HR.out⟩, ?_⟩
          have e1 := HCN.out
          have e2 := HCW.out
          rw [idxOf_is rfl e1, idxOf_is rfl e2]
          omega
end Go.Proofs
