/- insert.undercuts: the sorted cells of the box that come to the base, and are none of it. -/
import Derived.Test.YtllameiilljelaaUndB
import Derived.Test.YtllameiilljelaaKeysI
import Derived.Test.YtllameiilljelaaStepA
import Derived.Test.YtllameiilljelaaG2
namespace Go.Proofs
open Go.RowKit Go.Shelf
set_option maxHeartbeats 16000000
set_option maxRecDepth 1000000
attribute [local go_sem] Oper.semAt_some
/-- The state of undercuts' loops: the found cells; all else is as at the beginning. -/
structure UndS (W0 : World) (b : Nat) (S : List Cel) (Ds : List Nat) (W : World) : Prop where
  set : CSet W b S
  nd : S.Nodup
  defs : Defs W W0.heap.size Ds
  keep : Keep1 W0.heap.size b W0 W
theorem UndS.turn {W0 : World} {b : Nat} {S : List Cel} {Ds : List Nat} {W W' : World} {row : Option Nat} (h : UndS W0 b S Ds W) (B : Nat) (hg : W.grownBy W' row) (hr : ∀ r, row = some r → B ≤ r) (hb : b < B) (hD : ∀ D ∈ Ds, D < B) (hB : W0.heap.size ≤ B) : UndS W0 b S Ds W' := by
  have key : ∀ k, k < B → k < W.heap.size → W'.heap[k]? = W.heap[k]? := fun k hk hw => hg.block k hw (fun e => by have := hr k e.symm; omega)
  exact ⟨h.set.keep (key b hb h.set.lt), h.nd, h.defs.keep (fun D hDm => key D (hD D hDm) (h.defs.lt hDm)), h.keep.trans ⟨hg.os, hg.tape, hg.output, hg.size, fun k h1 _ => key k (by omega) (Nat.lt_of_lt_of_le h1 h.keep.size)⟩⟩
theorem UndS.below {W0 : World} {b : Nat} {S : List Cel} {Ds : List Nat} {W W' : World} (h : UndS W0 b S Ds W) (hg : Below W.heap.size W W') : UndS W0 b S Ds W' :=
  h.turn W.heap.size (below_grown hg) (fun r e => by cases e) h.set.lt (fun _ hD => h.defs.lt hD) h.keep.size
theorem enters_below : ∀ args w, (callFunc 68 args).run Try.prog w = .ok (.enter 68 args) w := enters_of Try.func68 (by kernel_rfl) rfl
theorem enters_keys : ∀ args w, (callFunc 69 args).run Try.prog w = .ok (.enter 69 args) w := enters_of Try.func69 (by kernel_rfl) rfl
theorem stepL_len (c d : Cel) (K : Nat) : (stepL c d K).length = K := by simp [stepL]
theorem stepL_in {b : Cel × Cel} {c d : Cel} {K : Nat} (h : Steps b c d K) {x : Cel} (hx : x ∈ stepL c d K) : isInB b x := by
  obtain ⟨j, hj, rfl⟩ := List.mem_map.1 hx
  exact h.1 j (List.mem_range.1 hj)
theorem isIn_near {b : Cel × Cel} {x : Cel} (h : isInB b x) (h1 : Near b.1 1000) (h2 : Near b.2 1000) : Near x 1000 := by
  unfold isInB at h
  unfold Near at h1 h2 ⊢
  omega
theorem run_makeMap_none (t : TypeId) (w : World) : (Instr.makeMap t none).run Try.prog w = .ok (.map (some w.heap.size)) (w.alloc (.map #[] 0)) := by
  simp [Instr.makeMap, Result.andThen]
/-- Which cells are found behind some cells of the base. -/
def undM (l : List Cel) (d : Cel) (Kf : Cel → Nat) (k : Nat) (c : Cel) : Prop := c ∉ l ∧ ∃ e ∈ l.take k, c ∈ stepL e d (Kf e)
theorem undM_succ {l : List Cel} {d : Cel} {Kf : Cel → Nat} {k : Nat} {e : Cel} (he : l[k]? = some e) {c : Cel} : undM l d Kf (k + 1) c ↔ undM l d Kf k c ∨ (c ∉ l ∧ c ∈ stepL e d (Kf e)) := by
  unfold undM
  rw [List.take_add_one, he]
  simp only [Option.toList_some, List.mem_append, List.mem_singleton]
  constructor
  · rintro ⟨h, e', h1 | rfl, h2⟩
    · exact .inl ⟨h, e', h1, h2⟩
    · exact .inr ⟨h, h2⟩
  · rintro (⟨h, e', h1, h2⟩ | ⟨h, h2⟩)
    · exact ⟨h, e', .inl h1, h2⟩
    · exact ⟨h, e, .inr rfl, h2⟩
theorem flat_len {α β : Type} {f : α → List β} {H : Nat} : ∀ {l : List α}, (∀ e ∈ l, (f e).length ≤ H) → (l.flatMap f).length ≤ l.length * H
  | [], _ => by simp
  | e :: l, h => by
    have h1 := h e (by simp)
    have h2 := flat_len (l := l) (f := f) (H := H) fun x hx => h x (by simp [hx])
    rw [List.flatMap_cons, List.length_append, List.length_cons, Nat.add_mul]
    omega
theorem und_len {l S : List Cel} {d : Cel} {Kf : Cel → Nat} {H k : Nat} (hH : ∀ c ∈ l, Kf c ≤ H) (hcap : l.length * H ≤ 4096) (hnd : S.Nodup) (h : ∀ c ∈ S, undM l d Kf k c) : S.length ≤ 4096 := by
  have h1 := nodup_len hnd (m := (l.take k).flatMap fun e => stepL e d (Kf e)) fun c hc => by
    obtain ⟨-, e, he, h⟩ := h c hc
    exact List.mem_flatMap.2 ⟨e, he, h⟩
  have h2 := flat_len (l := l.take k) (f := fun e => stepL e d (Kf e)) (H := H) fun e he => by rw [stepL_len]; exact hH e (List.mem_of_mem_take he)
  rw [List.length_take] at h2
  have h3 : min k l.length * H ≤ l.length * H := Nat.mul_le_mul_right _ (Nat.min_le_right _ _)
  omega
theorem run_len_cells {w : World} {b : Nat} {es : Array MapEntry} {clock : Nat} (hb : w.heap[b]? = some (.map es clock)) :
    (Builtin.len_ #[54] 3 #[.map (some b)]).run Try.prog w = .ok (.int .i64 es.size) w := by
  simp [Builtin.len_, getObj, Sem.run_bind, Sem.run, hb, Result.andThen, underlying, program, Try.underlying54, goInt]
theorem outI_nearU {X : List Cel} (h : ∀ c ∈ X, Near c 1000) : outI X = 0 := by
  have : X.any badC = false := by
    rw [List.any_eq_false]
    exact fun c hc => by rw [badC_near.2 (h c hc)]; decide
  unfold outI
  rw [this]
  rfl
structure UndI (W0 : World) (b : Nat) (l : List Cel) (d : Cel) (Kf : Cel → Nat) (k : Nat) (S : List Cel) (Ds : List Nat) (W : World) : Prop where
  st : UndS W0 b S Ds W
  mem : ∀ c, c ∈ S ↔ undM l d Kf k c
theorem undercuts_ok (l : List Cel) (v : Value) (dx dy dz : Int) (Kf : Cel → Nat) (H : Nat) (w : World) (hl : Sl w v l) (hc : chkI l = 0) (hd : dirI (dx, dy, dz) = 0) (hvol : volI (baseB l) ≤ 100000)
    (hK : ∀ c ∈ l, Steps (baseB l) c (dx, dy, dz) (Kf c)) (hH : ∀ c ∈ l, Kf c ≤ H) (hcap : l.length * H ≤ 4096) :
    Calls Try.prog 43 #[v, .agg #[.int .i64 dx, .int .i64 dy, .int .i64 dz]] w fun e w' => ∃ B out, e = .returned (.tuple #[.slice (some ⟨B, 0, none⟩) out.length out.length, .int .i64 0]) ∧ w.heap.size ≤ B ∧ Filled w' B out.length 26 out ∧ Up out ∧ (∀ c, c ∈ out ↔ undM l (dx, dy, dz) Kf l.length c) ∧ Below w.heap.size w w' := by
  obtain ⟨hll, hln, -⟩ := chkI_zero.1 hc
  obtain ⟨n1, n2, -, hbw⟩ := base_in (l := l) (m := 1000) (by omega) hln
  have hdd := dir_zero hd
  obtain ⟨A, cap, rfl⟩ := hl.form
  have kO := fun W (h : Below w.heap.size w W) => obstacleOf_ok l _ W (hl.below h) hc
  have kV := fun W => insVolume_ok (baseB l) W n1 n2 hbw
  have hbx : baseB l = baseB l := rfl
  generalize baseB l = bx at *
  obtain ⟨⟨lx, ly, lz⟩, ⟨ux, uy, uz⟩⟩ := bx
  unfold boxV at kV
  unfold obsV at kO
  dsimp only at kV kO
  generalize volI ((lx, ly, lz), (ux, uy, uz)) = vol at hvol kV
  have hvol' : ¬ (100000 : Int) < vol := by omega
  have H0 := Lib.hid hc
  clear hvol hc hbx
  refine (callsIn_wide (n := 3)).1 ?_
  refine callsIn_of_wp_marks Try.func43 rfl trivial ?_ rfl
  simp only [Try.ntmps43, List.size_toArray, List.length_cons, List.length_nil, Nat.reduceAdd, Nat.reduceSub, Array.replicate_succ, Array.replicate_zero, List.push_toArray, List.append_toArray, List.nil_append, List.cons_append]
  gi_wp2
  have hX : Below w.heap.size w (w.alloc (.cells #[.int .i64 dx, .int .i64 dy, .int .i64 dz] 26)) := (Below.refl _ _).alloc (Nat.le_refl _) _
  have hD0 : (w.alloc (.cells #[.int .i64 dx, .int .i64 dy, .int .i64 dz] 26)).heap[w.heap.size]? = some (.cells #[.int .i64 dx, .int .i64 dy, .int .i64 dz] 26 (0, 0)) := heap_alloc_new _ _
  refine ⟨trivial, (callsIn_wide.2 (kO _ hX)).mono ?_⟩
  rintro e w1 ⟨m, rfl, hm, hS, hB1⟩
  have hX1 := hX.trans (hB1.mono hX.size)
  have hD1 : w1.heap[w.heap.size]? = some (.cells #[.int .i64 dx, .int .i64 dy, .int .i64 dz] 26 (0, 0)) := (hB1.block _ (by simp)).trans hD0
  clear hB1 hD0 hX kO
  gi_wp2
  refine ⟨trivial, (callsIn_wide.2 (kV _)).mono ?_⟩
  rintro e w2 ⟨rfl, hB2⟩
  have hB2' : Below w1.heap.size w1 w2 := (below_alloc w1 _).trans (hB2.mono (by simp))
  have hO2 : w2.heap[w1.heap.size]? = some (.cells #[.map (some m), .int .i64 lx, .int .i64 ly, .int .i64 lz, .int .i64 ux, .int .i64 uy, .int .i64 uz] 56 (0, 0)) := (hB2.block _ (by simp)).trans (heap_alloc_new _ _)
  have hX2 := hX1.trans (hB2'.mono hX1.size)
  have hD2 := (hB2'.block w.heap.size (Array.getElem?_eq_some_iff.1 hD1).1).trans hD1
  have hS2 := hS.below hB2' hS.lt
  have hm1 : m < w1.heap.size := hS.lt
  have hw1 : w.heap.size < w1.heap.size := (Array.getElem?_eq_some_iff.1 hD1).1
  have hw2 : w1.heap.size < w2.heap.size := (Array.getElem?_eq_some_iff.1 hO2).1
  have hmk := run_makeMap_none 54 w2
  clear kV hB2 hB2' hD1 hS hX1
  gi_wp2
  obtain ⟨W0, hW0⟩ : ∃ W0, (w2.alloc (.map #[] 0)).alloc (.cells #[.map (some w2.heap.size)] 54) = W0 := ⟨_, rfl⟩
  have hsz0 : W0.heap.size = w2.heap.size + 1 + 1 := by subst hW0; simp
  have hX20 : Below w2.heap.size w2 W0 := by subst hW0; exact ((Below.refl _ _).alloc (Nat.le_refl _) _).alloc (by simp) _
  have hb0 : CSet W0 w2.heap.size [] := by subst hW0; exact (CMap.made w2).alloc _
  have hF0 : Boxed W0 (w2.heap.size + 1) 54 (.map (some w2.heap.size)) := by
    subst hW0
    have := Boxed.new (w2.alloc (.map #[] 0)) 54 (.map (some w2.heap.size))
    simpa using this
  have hX0 := hX2.trans (hX20.mono hX2.size)
  have hO0 := (hX20.block _ hw2).trans hO2
  have hD0 := (hX20.block w.heap.size (by omega)).trans hD2
  have hS0 := hS2.below hX20 hS2.lt
  have hl0 := hl.below hX0
  have st0 : UndS W0 w2.heap.size [] [] W0 := ⟨hb0, List.nodup_nil, Defs.nil _ _, Keep1.refl _ _ _⟩
  rw [hW0]
  clear hW0 hmk hS2 hD2 hO2 hX2 hX20 hl
  refine wpIn_loop (fun a W => ∃ (k : Nat) (S : List Cel) (Ds : List Nat) (u2 u8 u9 u10 u11 u12 u13 u14 u15 u16 u17 u21 u22 u23 u24 u25 u26 u27 u28 u29 u30 u31 u32 u33 u34 u35 u36 u37 u38 u39 u40 u41 u42 u43 u44 u45 : Value), k ≤ l.length ∧ a = { tmps := #[.slice A l.length cap, .agg #[.int .i64 dx, .int .i64 dy, .int .i64 dz], u2, .pointer (some ⟨w.heap.size, 0, none⟩), .slice none 0 0, .int .i64 0, .pointer (some ⟨w1.heap.size, 0, none⟩), .pointer (some ⟨w2.heap.size + 1, 0, none⟩), u8, u9, u10, u11, u12, u13, u14, u15, u16, u17, .slice A l.length cap, .int .i64 l.length, .int .i64 k, u21, u22, u23, u24, u25, u26, u27, u28, u29, u30, u31, u32, u33, u34, u35, u36, u37, u38, u39, u40, u41, u42, u43, u44, u45], defers := Ds.map coll } ∧ UndI W0 w2.heap.size l (dx, dy, dz) Kf k S Ds W) (fun a _ => l.length - (intOf (a.tmps.getD 20 undef)).toNat) ?start ?round
  case start => exact ⟨0, [], [], _, _, _, _, _, _, _, _, _, _, _, _, _, _, _, _, _, _, _, _, _, _, _, _, _, _, _, _, _, _, _, _, _, _, _, _, Nat.zero_le _, rfl, st0, fun c => by simp [undM]⟩
  case round =>
    clear st0
    rintro a W ⟨k, S, Ds, u2, u8, u9, u10, u11, u12, u13, u14, u15, u16, u17, u21, u22, u23, u24, u25, u26, u27, u28, u29, u30, u31, u32, u33, u34, u35, u36, u37, u38, u39, u40, u41, u42, u43, u44, u45, hk, rfl, ⟨st, hmem⟩⟩
    have hro : Fence.wide.round = none := rfl
    have h1 : 1 ≤ 3 := by omega
    have hWW : W0.heap.size ≤ W.heap.size := st.keep.size
    have hlW := sl_keep1 hb0 hl0 (Nat.le_refl _) st.keep
    have hblk : ∀ V, Keep1 W0.heap.size w2.heap.size W0 V → V.heap[w1.heap.size]? = some (.cells #[.map (some m), .int .i64 lx, .int .i64 ly, .int .i64 lz, .int .i64 ux, .int .i64 uy, .int .i64 uz] 56 (0, 0)) ∧ V.heap[w.heap.size]? = some (.cells #[.int .i64 dx, .int .i64 dy, .int .i64 dz] 26 (0, 0)) ∧ Boxed V (w2.heap.size + 1) 54 (.map (some w2.heap.size)) ∧ CSet V m (setL l) := fun V h =>
      ⟨(h.block _ (by omega) (by omega)).trans hO0, (h.block _ (by omega) (by omega)).trans hD0, (h.block _ (by omega) (by omega)).trans hF0, hS0.keep (h.block _ (by omega) (by omega))⟩
    have hobs : ∀ V : World, V.heap[w1.heap.size]? = some (.cells #[.map (some m), .int .i64 lx, .int .i64 ly, .int .i64 lz, .int .i64 ux, .int .i64 uy, .int .i64 uz] 56 (0, 0)) → V.cell? ⟨w1.heap.size, 0, none⟩ = some (.map (some m)) ∧ V.cell? ⟨w1.heap.size, 1, none⟩ = some (.int .i64 lx) ∧ V.cell? ⟨w1.heap.size, 2, none⟩ = some (.int .i64 ly) ∧ V.cell? ⟨w1.heap.size, 3, none⟩ = some (.int .i64 lz) ∧ V.cell? ⟨w1.heap.size, 4, none⟩ = some (.int .i64 ux) ∧ V.cell? ⟨w1.heap.size, 5, none⟩ = some (.int .i64 uy) ∧ V.cell? ⟨w1.heap.size, 6, none⟩ = some (.int .i64 uz) := fun V h => by
      have zl := fun j => cell_of_row V w1.heap.size j _ _ _ h
      have z0 := zl 0
      have z1 := zl 1
      have z2 := zl 2
      have z3 := zl 3
      have z4 := zl 4
      have z5 := zl 5
      have z6 := zl 6
      simp at z0 z1 z2 z3 z4 z5 z6
      exact ⟨z0, z1, z2, z3, z4, z5, z6⟩
    rcases Nat.lt_or_eq_of_le hk with hkn | rfl
    · obtain ⟨be, oe, x, y, z, rfl, -, hbe, hce, r0, r1, r2⟩ := hlW.cells hkn
      have hxl : (x, y, z) ∈ l := List.mem_of_getElem? hce
      have hk0 : (0 : Int) ≤ k := by omega
      have hk1 : (k : Int) < l.length := by omega
      have wk := wrapS (n := (k : Int) + 1) (by omega)
      obtain ⟨W2, hW2⟩ : ∃ W2, W2 = W.alloc (.cells #[.int .i64 x, .int .i64 y, .int .i64 z] 26) := ⟨_, rfl⟩
      have hC2 : Boxed3 W2 W.heap.size (x, y, z) := by subst hW2; exact World.alloc_heap_new W _
      have hX2 : Below W.heap.size W W2 := by subst hW2; exact (Below.refl _ _).alloc (Nat.le_refl _) _
      have hs2 : W2.heap.size = W.heap.size + 1 := by subst hW2; simp
      obtain ⟨c0, c1, c2⟩ := hC2.cell
      dsimp only at c0 c1 c2
      obtain ⟨b2o, b2d, b2f, b2s⟩ := hblk _ (st.below (below_alloc W (.cells #[.int .i64 x, .int .i64 y, .int .i64 z] 26))).keep
      obtain ⟨o0, o1, o2, o3, o4, o5, o6⟩ := hobs _ b2o
      obtain ⟨⟨e0, e1, e2⟩, _⟩ := three_cells b2d
      have q := obsBelow_ok m ((lx, ly, lz), (ux, uy, uz)) (x, y, z) (dx, dy, dz) W2
      unfold obsV celA at q
      dsimp only at q
      gi_wp2
      rw [← hW2]
      refine ⟨trivial, (callsIn_wide.2 q).mono ?_⟩
      rintro e W3 ⟨rfl, hW3⟩
      have hX3 : Below W2.heap.size W2 W3 := by rw [hW3]; exact (((Below.refl _ _).alloc (Nat.le_refl _) _).alloc (by simp) _).alloc (by simp; omega) _
      have hs3 : W3.heap.size = W2.heap.size + 1 + 1 + 1 := by rw [hW3]; simp
      have hAt : BelAt (W2.heap.size + 1) (W2.heap.size + 2) W2.heap.size m ((lx, ly, lz), (ux, uy, uz)) (x, y, z) (dx, dy, dz) W3 := by
        have g1 := heap_alloc_new W2 (.cells (obsA m ((lx, ly, lz), (ux, uy, uz))) 56)
        have g2 := heap_alloc_new (W2.alloc (.cells (obsA m ((lx, ly, lz), (ux, uy, uz))) 56)) (.cells (celA (x, y, z)) 26)
        have g3 := heap_alloc_new ((W2.alloc (.cells (obsA m ((lx, ly, lz), (ux, uy, uz))) 56)).alloc (.cells (celA (x, y, z)) 26)) (.cells (celA (dx, dy, dz)) 26)
        rw [World.size_alloc] at g2
        rw [World.size_alloc, World.size_alloc] at g3
        rw [hW3]
        refine ⟨?_, ?_, ?_⟩
        · exact ((below_alloc _ _).block _ (by simp)).trans g2
        · exact g3
        · exact ((below_alloc _ _).block _ (by simp; omega)).trans (((below_alloc _ _).block _ (by simp)).trans g1)
      have hX13 : Below W.heap.size W W3 := hX2.trans (hX3.mono (by omega))
      have st3 := st.below hX13
      have hnc := hln _ hxl
      clear q hW2 hW3 hX2 hX3 hC2 c0 c1 c2 o0 o1 o2 o3 o4 o5 o6 e0 e1 e2 b2o b2d b2f b2s r0 r1 r2 hlW
      rw [hs2] at hAt hs3 ⊢
      gi_wp2
      have hbW : w2.heap.size < W.heap.size := by omega
      refine wpIn_rangeFunc_ownH hro h1 (gf := 68) (lb := #[.pointer (some ⟨W.heap.size + 1 + 1, 0, none⟩), .pointer (some ⟨W.heap.size + 1 + 2, 0, none⟩), .pointer (some ⟨W.heap.size + 1, 0, none⟩)]) rfl trivial enters_below
        (below_stopsK 2 (by omega) (W.heap.size + 1 + 1) (W.heap.size + 1 + 2) (W.heap.size + 1) m (Kf (x, y, z)) ((lx, ly, lz), (ux, uy, uz)) (x, y, z) (dx, dy, dz) n1 n2 hnc hdd hbw (hK _ hxl) (fun X Y => BelAt (W.heap.size + 1 + 1) (W.heap.size + 1 + 2) (W.heap.size + 1) m ((lx, ly, lz), (ux, uy, uz)) (x, y, z) (dx, dy, dz) X → BelAt (W.heap.size + 1 + 1) (W.heap.size + 1 + 2) (W.heap.size + 1) m ((lx, ly, lz), (ux, uy, uz)) (x, y, z) (dx, dy, dz) Y) (fun _ _ h => h) W3 hAt)
        (fun h k q => k (h q)) (fun X ll o o' hll _ _ _ q => ⟨(putObj_other X ll _ _ (by omega)).trans q.1, (putObj_other X ll _ _ (by omega)).trans q.2.1, (putObj_other X ll _ _ (by omega)).trans q.2.2⟩) (Below.refl _ _) (fun _ => rfl)
        (fun pre Wr => (∃ S', UndS W0 w2.heap.size S' Ds Wr ∧ (∀ c, c ∈ S' ↔ undM l (dx, dy, dz) Kf k c ∨ (c ∉ l ∧ c ∈ pre))) ∧ W3.heap.size ≤ Wr.heap.size)
        (fun _ _ _ => False)
        (fun pre X Y row hs hg hr => by
          obtain ⟨⟨S', m1, m2⟩, m3⟩ := hs
          exact ⟨⟨S', m1.turn W3.heap.size hg (fun r e => (hr r e).1) (by omega) (fun _ hD => st3.defs.lt hD) (by omega), m2⟩, Nat.le_trans m3 hg.size⟩)
        (fun _ _ _ _ _ hs _ _ => hs)
        ⟨⟨S, st3, fun c => by rw [hmem c]; simp⟩, Nat.le_refl _⟩
        (fun d a' Wr => ∃ Bx, W3.heap.size ≤ Bx ∧ Boxed3 Wr Bx d ∧ a' = { tmps := #[.slice (some ⟨be, oe, none⟩) l.length cap, .agg #[.int .i64 dx, .int .i64 dy, .int .i64 dz], u2, .pointer (some ⟨w.heap.size, 0, none⟩), .slice none 0 0, .int .i64 0, .pointer (some ⟨w1.heap.size, 0, none⟩), .pointer (some ⟨w2.heap.size + 1, 0, none⟩), u8, .pointer (some ⟨W.heap.size, 0, none⟩), .pointer (some ⟨Bx, 0, none⟩), u11, u12, u13, u14, u15, u16, u17, .slice (some ⟨be, oe, none⟩) l.length cap, .int .i64 l.length, .int .i64 k, .bool true, .pointer (some ⟨be, oe + k * 3, none⟩), .agg #[.int .i64 x, .int .i64 y, .int .i64 z], .agg #[.map (some m), .int .i64 lx, .int .i64 ly, .int .i64 lz, .int .i64 ux, .int .i64 uy, .int .i64 uz], .agg #[.int .i64 x, .int .i64 y, .int .i64 z], .agg #[.int .i64 dx, .int .i64 dy, .int .i64 dz], .func (.func 68) #[] #[.pointer (some ⟨W.heap.size + 1 + 1, 0, none⟩), .pointer (some ⟨W.heap.size + 1 + 2, 0, none⟩), .pointer (some ⟨W.heap.size + 1, 0, none⟩)], cellV d, u29, u30, u31, u32, u33, u34, u35, u36, u37, u38, u39, u40, u41, u42, u43, u44, u45], defers := [] })
        (fun d a' _ X Y row hs hg hr => by obtain ⟨Bx, g1, g2, g3⟩ := hs; exact ⟨Bx, g1, Boxed3.own Bx (fun (_ : Unit) => d) () X Y row g2 hg (fun r e => (hr r e).2), g3⟩)
        ?assign ?body ?done ?stop
      case assign =>
        rintro ll pre ⟨px, py, pz⟩ Wr K ⟨⟨S', m1, m2⟩, m3⟩ hK'
        unfold cellV at hK' ⊢
        dsimp only at hK' ⊢
        gi_wp2
        exact hK' _ _ ((KeepsOthers.alloc _ _).from _) (fun q => q.below _ (below_alloc Wr _) q.lt) ⟨⟨S', m1.below (below_alloc Wr _), m2⟩, Nat.le_trans m3 (by simp)⟩ ⟨Wr.heap.size, m3, World.alloc_heap_new Wr _, rfl⟩
      case stop =>
        rintro D c pre Wr _ _ h _
        exact h.elim
      case body =>
        rintro ll pre ⟨px, py, pz⟩ a' Wr hl' ⟨r, hr⟩ ⟨⟨S', m1, m2⟩, m3⟩ ⟨Bx, hBx, bx, rfl⟩ hlt2
        obtain ⟨b2o, b2d, b2f, b2s⟩ := hblk _ m1.keep
        obtain ⟨o0, _⟩ := hobs _ b2o
        have cF := b2f.cell
        have hset := m1.set
        obtain ⟨c0, c1, c2⟩ := bx.cell
        dsimp only at c0 c1 c2
        by_cases hd' : (px, py, pz) ∈ l
        · have hd2 : decide ((px, py, pz) ∈ setL l) = true := decide_eq_true (mem_setL.2 hd')
          have Hd := Lib.hid hd'
          clear hd' hce
          gi_wp2_with (gi_at_lookup; refine wpListIn_lookup_set rfl _ _ _ rfl Try.underlying54 m (setL l) rfl b2s (px, py, pz) rfl true hd2 ?_)
          refine ⟨KeepsFrom.refl _ _, fun q => q, ⟨S', m1, fun c => ?_⟩, m3⟩
          rw [m2 c, List.mem_append, List.mem_singleton]
          constructor
          · rintro (h | h)
            · exact .inl h
            · exact .inr ⟨h.1, .inl h.2⟩
          · rintro (h | ⟨h2, h | h⟩)
            · exact .inl h
            · exact .inr ⟨h2, h⟩
            · subst h
              exact absurd Hd.out h2
        · have hd2 : decide ((px, py, pz) ∈ setL l) = false := decide_eq_false (fun h => hd' (mem_setL.1 h))
          have hszr : W0.heap.size ≤ Wr.heap.size := m1.keep.size
          have Hd := Lib.hid hd'
          have hbn : w2.heap.size + 1 ≠ w2.heap.size := by omega
          have hBb : Bx ≠ w2.heap.size := by omega
          clear hd' hce hr
          gi_wp2_with (first
            | (gi_at_lookup; refine wpListIn_lookup_set rfl _ _ _ rfl Try.underlying54 m (setL l) rfl b2s (px, py, pz) rfl false hd2 ?_)
            | (gi_at_mapUpdate; refine wpListIn_update_set rfl _ _ _ _ rfl Try.underlying54 w2.heap.size S' rfl hset (px, py, pz) rfl rfl ?_; intro w4 hset4 hgm))
          refine ⟨KeepsFrom.of_grownBy hgm (fun j e => by cases e; omega), fun q => ⟨(hgm.block _ q.lt.1 (fun e => by have := Option.some.inj e; omega)).trans q.1, (hgm.block _ q.lt.2.1 (fun e => by have := Option.some.inj e; omega)).trans q.2.1, (hgm.block _ q.lt.2.2 (fun e => by have := Option.some.inj e; omega)).trans q.2.2⟩, ⟨addC (px, py, pz) S', ⟨hset4, nodup_addC m1.nd, ⟨m1.defs.1, fun D hD => ⟨(m1.defs.2 D hD).1, (hgm.block _ (m1.defs.lt hD) fun e => ?_).trans (m1.defs.2 D hD).2⟩⟩, m1.keep.trans (Keep1.of_grown hgm hszr fun j e => by cases e; exact .inl rfl)⟩, fun c => ?_⟩, Nat.le_trans m3 hgm.size⟩
          · cases e
            obtain ⟨es', clock', q1, _⟩ := m1.set
            rw [(m1.defs.2 _ hD).2] at q1
            cases q1
          · rw [mem_addC, m2 c, List.mem_append, List.mem_singleton]
            constructor
            · rintro (h | h | h)
              · exact .inr ⟨by rw [h]; exact Hd.out, .inr h⟩
              · exact .inl h
              · exact .inr ⟨h.1, .inl h.2⟩
            · rintro (h | ⟨h2, h | h⟩)
              · exact .inr (.inl h)
              · exact .inr (.inr ⟨h2, h⟩)
              · exact .inl h
      case done =>
        rintro D ys Wr hD rfl ⟨⟨S', m1, m2⟩, m3⟩ hKd
        have hmem' : ∀ c, c ∈ S' ↔ undM l (dx, dy, dz) Kf (k + 1) c := fun c => by
          rw [m2 c]
          exact (undM_succ hce).symm
        have st4 : UndS W0 w2.heap.size S' (D :: Ds) Wr := by
          refine ⟨m1.set, m1.nd, ⟨List.nodup_cons.2 ⟨fun h => ?_, m1.defs.1⟩, fun F hF => ?_⟩, m1.keep⟩
          · have := st3.defs.lt h
            omega
          · rcases List.mem_cons.1 hF with rfl | hF
            · exact ⟨by omega, hKd⟩
            · exact m1.defs.2 F hF
        have hcard := und_len hH hcap m1.nd (fun c h => (hmem' c).1 h)
        obtain ⟨b2o, b2d, b2f, b2s⟩ := hblk _ m1.keep
        have cF := b2f.cell
        obtain ⟨es, clock, hbm, hbs⟩ := m1.set.len
        have hlen5 := run_len_cells hbm
        have hle5 : ¬ (4096 : Int) < (es.size : Int) := by rw [hbs, List.length_map]; omega
        clear hce hnc m1 hbm hbs b2o b2d b2f b2s
        gi_wp2
        exact ⟨⟨k + 1, hkn, S', D :: Ds, ⟨by omega, rfl⟩, st4, hmem'⟩, by simp [intOf]; omega⟩
    · obtain ⟨b2o, b2d, b2f, b2s⟩ := hblk _ st.keep
      have cF := b2f.cell
      have hcard := und_len hH hcap st.nd (fun c h => (hmem c).1 h)
      have hnear : ∀ c ∈ S, Near c 1000 := fun c h => by
        obtain ⟨-, e, he, h⟩ := (hmem c).1 h
        exact isIn_near (stepL_in (hK e (List.mem_of_mem_take he)) h) n1 n2
      have kK := fun V => mapsKeys_ok w2.heap.size V
      gi_wp2
      refine ⟨trivial, (callsIn_wide.2 (kK _)).mono ?_⟩
      rintro e W5 ⟨rfl, hW5⟩
      have hX5 : Below W.heap.size W W5 := by rw [hW5]; exact below_alloc W _
      have hs5 : W5.heap.size = W.heap.size + 1 := by rw [hW5]; simp
      have hK5 : Boxed W5 W.heap.size 54 (.map (some w2.heap.size)) := by rw [hW5]; exact Boxed.new _ _ _
      have hset5 := st.set.below hX5 st.set.lt
      have kC := collectP_ok 69 #[.pointer (some ⟨W.heap.size, 0, none⟩)] enters_keys (fun ys => ys.Perm S) S.length (by omega) W5 (fun V hV => by
        have hbV := hV.block W.heap.size (by omega)
        exact keys_stops 2 (by omega) W.heap.size w2.heap.size S st.nd V W5.heap.size (Boxed.cell (hbV.trans hK5)) (by have := hV.size; omega) (hset5.below hV (by omega)))
      clear kK hW5
      gi_wp2
      refine ⟨trivial, (callsIn_wide.2 kC).mono ?_⟩
      rintro e W6 ⟨v6, xs, rfl, hperm, hown, hX6⟩
      have hlenx : xs.length = S.length := hperm.length_eq
      have kS := gSorted_ok xs v6 W6 hown.sl (by omega) (outI_nearU fun c h => hnear c (hperm.mem_iff.1 h))
      clear kC
      gi_wp2
      refine ⟨trivial, (callsIn_wide.2 kS).mono ?_⟩
      rintro e W7 ⟨B, out, rfl, hB, hfill, hup, hout, hX7⟩
      clear kS
      gi_wp2
      have hX57 : Below W.heap.size W W7 := hX5.trans ((hX6.mono (by omega)).trans (hX7.mono (by have := hX6.size; omega)))
      have hbelW : Below w.heap.size w W := hX0.trans ⟨st.keep.os, st.keep.tape, st.keep.output, st.keep.size, fun j hj => st.keep.block j (by have := hX0.size; omega) (by omega)⟩
      have hdefs : Defs W7 w.heap.size Ds := ⟨st.defs.1, fun D hD => ⟨by have := (st.defs.2 D hD).1; have := hX0.size; omega, (hX57.block D (st.defs.lt hD)).trans (st.defs.2 D hD).2⟩⟩
      refine leaves_all (B := w.heap.size) Ds _ hdefs fun W' hW' => ?_
      obtain ⟨arr, f1, f2, f3⟩ := hfill
      exact ⟨_, results_tmp2 rfl _ _ _, B, out, rfl, by have := hX6.size; omega, ⟨arr, hW'.cells _ _ f1 rfl, f2, f3⟩, hup, fun c => (hout c).trans ((hperm.mem_iff).trans (hmem c)), hbelW.trans ((hX57.mono hbelW.size).trans ⟨hW'.os, hW'.tape, hW'.output, Nat.le_of_eq hW'.size.symm, hW'.below⟩)⟩
end Go.Proofs
