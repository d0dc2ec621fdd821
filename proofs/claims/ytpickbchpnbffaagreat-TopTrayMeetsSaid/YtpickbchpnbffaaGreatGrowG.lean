/- grid.Grow: the first error, or the set grown. -/
import Derived.Test.YtpickbchpnbffaaGreatPeel
import Derived.Test.YtpickbchpnbffaaGreatKeep1
import Derived.Test.YtpickbchpnbffaaGreatGrP
import Derived.Test.YtpickbchpnbffaaGreatHeldF
import Derived.Test.YtpickbchpnbffaaGreatCheckV
import Derived.Test.YtpickbchpnbffaaGreatHas
import Derived.Test.YtpickbchpnbffaaGreatMovedX
namespace Go.Proofs
open Go.RowKit Go.Shelf
set_option maxHeartbeats 16000000
set_option maxRecDepth 1000000
attribute [local go_sem] Oper.semAt_some
/-- The outer loop's state. -/
structure GrowS (w : World) (Ab b : Nat) (l : List Cel) (i : Nat) (vE : Value) (E S : List Cel) (Ds : List Nat) (W : World) : Prop where
  all : Boxed W Ab 78 (.map (some b))
  set : CSet W b S
  nd : S.Nodup
  mem : ∀ c, c ∈ S ↔ c ∈ growN i l
  done : ∀ c ∈ S, c ∉ E → ∀ d ∈ nearL c, d ∈ S
  sub : ∀ c ∈ E, c ∈ S
  edge : Sl W vE E
  elen : E.length ≤ 4096
  hb : w.heap.size ≤ b
  hAb : w.heap.size ≤ Ab
  defs : Defs W w.heap.size Ds
  below : Below w.heap.size w W
/-- The middle loop's state: Wo is the world at the outer round's beginning. -/
structure MidS (Wo : World) (b Nx : Nat) (S0 : List Cel) (P : List Cel) (vN : Value) (N S : List Cel) (Ds : List Nat) (W : World) : Prop where
  set : CSet W b S
  nd : S.Nodup
  mem : ∀ c, c ∈ S ↔ c ∈ S0 ∨ c ∈ P
  box : Boxed W Nx 22 vN
  next : Own W Wo.heap.size vN N
  nmem : ∀ c, c ∈ N ↔ c ∈ S ∧ c ∉ S0
  nnd : N.Nodup
  defs : Defs W Wo.heap.size Ds
  keep : Keep1 Wo.heap.size b Wo W
theorem MidS.step {Wo : World} {b Nx : Nat} {S0 P : List Cel} {vN : Value} {N S : List Cel} {Ds : List Nat} {W W' : World} (h : MidS Wo b Nx S0 P vN N S Ds W) (B : Nat) (hos : W'.os = W.os) (htape : W'.tape = W.tape) (hout : W'.output = W.output) (hsize : W.heap.size ≤ W'.heap.size)
    (hk : ∀ (k : Nat) (o : Obj), W.heap[k]? = some o → (o.isCells = true ∨ k < B) → W'.heap[k]? = some o) (hb : b < B) (hD : ∀ D ∈ Ds, D < B) (hB : Wo.heap.size ≤ B) : MidS Wo b Nx S0 P vN N S Ds W' := by
  refine ⟨?_, h.nd, h.mem, hk _ _ h.box (.inl rfl), ⟨h.next.1, h.next.2.imp id fun ⟨g, cap, cur, h1, h2, hg, r⟩ => ⟨g, cap, cur, h1, h2, hk g _ hg (.inl rfl), r⟩⟩, h.nmem, h.nnd, ⟨h.defs.1, fun D hDm => ⟨(h.defs.2 D hDm).1, hk _ _ (h.defs.2 D hDm).2 (.inr (hD D hDm))⟩⟩, h.keep.trans ⟨hos, htape, hout, hsize, fun k h1 h2 => ?_⟩⟩
  · obtain ⟨es, clock, q1, q2⟩ := h.set
    exact ⟨es, clock, hk _ _ q1 (.inr hb), q2⟩
  · obtain ⟨o, ho⟩ : ∃ o, W.heap[k]? = some o := ⟨_, Array.getElem?_eq_getElem (Nat.lt_of_lt_of_le h1 h.keep.size)⟩
    rw [ho]
    exact hk _ _ ho (.inr (by omega))
theorem MidS.turn {Wo : World} {b Nx : Nat} {S0 P : List Cel} {vN : Value} {N S : List Cel} {Ds : List Nat} {W W' : World} {row : Option Nat} (h : MidS Wo b Nx S0 P vN N S Ds W) (B : Nat) (hg : W.grownBy W' row) (hr : ∀ r, row = some r → B ≤ r ∧ ∃ o : Obj, W.heap[r]? = some o ∧ o.isCells = false) (hb : b < B) (hD : ∀ D ∈ Ds, D < B) (hB : Wo.heap.size ≤ B) : MidS Wo b Nx S0 P vN N S Ds W' :=
  h.step B hg.os hg.tape hg.output hg.size (fun k o hk ho => (hg.block k (Array.getElem?_eq_some_iff.1 hk).1 fun e => by
    obtain ⟨h1, o', h2, h3⟩ := hr k e.symm
    rcases ho with ho | ho
    · rw [hk] at h2
      cases h2
      rw [ho] at h3
      cases h3
    · omega).trans hk) hb hD hB
theorem MidS.below {Wo : World} {b Nx : Nat} {S0 P : List Cel} {vN : Value} {N S : List Cel} {Ds : List Nat} {W W' : World} (h : MidS Wo b Nx S0 P vN N S Ds W) (hg : Below W.heap.size W W') : MidS Wo b Nx S0 P vN N S Ds W' :=
  h.step W.heap.size hg.os hg.tape hg.output hg.size (fun k _ hk _ => (hg.block k (Array.getElem?_eq_some_iff.1 hk).1).trans hk) h.set.lt (fun _ hD => h.defs.lt hD) h.keep.size
theorem ascUpG : ∀ {l : List Cel}, Asc l → Up l
  | [], _ => List.Pairwise.nil
  | [_], _ => List.pairwise_singleton _ _
  | x :: y :: l, h => by
    have hu : Up (y :: l) := ascUpG fun i a b ha hb => h (i + 1) a b ha hb
    have hxy : ltC x y = true := (cmp3_lt x y).1 (h 0 x y rfl rfl)
    refine List.pairwise_cons.2 ⟨fun z hz => ?_, hu⟩
    rcases List.mem_cons.1 hz with rfl | hz
    · exact hxy
    · exact ltC_tr hxy ((List.pairwise_cons.1 hu).1 z hz)
theorem upSortG {l : List Cel} (h : l.Nodup) : Up (sortC l) := ascUpG (asc_sortC h)
theorem cellV_maps : ∀ l m : List Cel, l.map cellV = m.map cellV → l = m
  | [], [], _ => rfl
  | [], _ :: _, h => by simp at h
  | _ :: _, [], h => by simp at h
  | x :: l, y :: m, h => by
    simp only [List.map_cons, List.cons.injEq] at h
    rw [cellV_inj h.1, cellV_maps l m h.2]
theorem len_two (p : Cel → Bool) : ∀ S : List Cel, S.length = (S.filter p).length + (S.filter fun c => !p c).length
  | [] => rfl
  | c :: S => by
    have := len_two p S
    cases h : p c <;> simp [h] <;> omega
theorem len_split {S pre : List Cel} {P : Cel → Prop} (hnd : S.Nodup) (h : ∀ c ∈ S, P c ∨ c ∈ pre) (hb : ∀ M : List Cel, M.Nodup → (∀ c ∈ M, P c) → M.length ≤ 4000) : S.length ≤ 4000 + pre.length := by
  have h1 : (S.filter fun c => decide (c ∈ pre)).length ≤ pre.length := nodup_len (hnd.filter _) fun c hc => of_decide_eq_true (List.mem_filter.1 hc).2
  have h2 : (S.filter fun c => !decide (c ∈ pre)).length ≤ 4000 := hb _ (hnd.filter _) fun c hc => by
    obtain ⟨a1, a2⟩ := List.mem_filter.1 hc
    rcases h c a1 with h | h
    · exact h
    · simp [h] at a2
  have := len_two (fun c => decide (c ∈ pre)) S
  omega
theorem growG_okS (l : List Cel) (v : Value) (n : Nat) (w : World) (hl : Sl w v l) (hc : chkI l = 0) (hn64 : n ≤ 64)
    (hbig : ∀ i, i ≤ n → ∀ S : List Cel, S.Nodup → (∀ c ∈ S, c ∈ growN i l) → S.length ≤ 4000) :
    Calls Tryz.prog 16 #[v, .int .i64 n] w fun e w' => ∃ X, Up X ∧ (∀ c, c ∈ X ↔ c ∈ growN n l) ∧ X.length ≤ 4096 ∧ ((outI X ≠ 0 ∧ e = .returned (.tuple #[.slice none 0 0, .int .i64 (outI X)])) ∨ (outI X = 0 ∧ ∃ v', e = .returned (.tuple #[v', .int .i64 0]) ∧ Sl w' v' X ∧ ∃ B, v' = .slice (some ⟨B, 0, none⟩) X.length X.length)) ∧ Below w.heap.size w w' := by
  obtain ⟨hlen, hnear0, hup⟩ := chkI_zero.1 hc
  have hng := near_grow hnear0
  have h1 := gridCheckG l v w hl (by unfold maxLen; omega)
  rw [hc] at h1
  have hw : withinI n 0 64 = 0 := by unfold withinI; rw [if_neg (by omega)]
  have k1 := fun W => within_ok n 0 64 W
  rw [hw] at k1
  have hf2 := fun blk W => first2_ok 0 0 blk 2 W
  have hor : orI 0 0 0 = 0 := by decide
  rw [hor] at hf2
  have hso := fun W (h : Below w.heap.size w W) => setOf_ok l v W (hl.below h) (by unfold maxLen; omega)
  clear hor hw hc
  refine (callsIn_wide (n := 3)).1 ?_
  refine callsIn_of_wp_marks Tryz.func16 rfl trivial ?_ rfl
  simp only [Tryz.ntmps16, List.size_toArray, List.length_cons, List.length_nil, Nat.reduceAdd, Nat.reduceSub, Array.replicate_succ, Array.replicate_zero, List.push_toArray, List.append_toArray, List.nil_append, List.cons_append]
  gi_wp2
  refine wpIn_scope_straight ?_
  gi_wp2
  refine ⟨trivial, (callsIn_wide.2 h1).mono ?_⟩
  rintro e w2 ⟨rfl, hB2⟩
  gi_wp2
  refine ⟨trivial, (callsIn_wide.2 (k1 _)).mono ?_⟩
  rintro e w3 ⟨rfl, hw3⟩
  subst hw3
  gi_wp2
  refine ⟨trivial, (callsIn_wide.2 (hf2 _ _ (by go_simp) (by go_simp))).mono ?_⟩
  rintro e w5 ⟨rfl, hw5⟩
  have hX : Below w.heap.size w w5 := by subst hw5; exact hB2.alloc hB2.size _
  have q := hso _ hX
  clear hw5 hB2 hso hf2 k1 h1
  gi_wp2
  refine ⟨trivial, (callsIn_wide.2 q).mono ?_⟩
  rintro e w6 ⟨b, rfl, hb, hset, hB6⟩
  have hX6 := hX.trans (hB6.mono hX.size)
  clear q
  gi_wp2
  refine wpIn_label ?_
  gi_wp2
  generalize hAb : w6.heap.size = Ab
  obtain ⟨W1, hW1⟩ : ∃ W1, w6.alloc (.cells #[.map (some b)] 78) = W1 := ⟨_, rfl⟩
  have st0 : GrowS w Ab b l 0 v l (setL l) [] W1 := by
    subst hW1
    subst hAb
    exact ⟨Boxed.new _ _ _, hset.alloc _, nodup_setL l, fun c => mem_setL, fun c hc hne => absurd (mem_setL.1 hc) hne, fun c hc => mem_setL.2 hc, (hl.below hX6).below (below_alloc _ _), by omega, Nat.le_trans hX.size hb, hX6.size, Defs.nil _ _, hX6.alloc hX6.size _⟩
  rw [hW1]
  clear hW1 hAb hX6 hset hb hB6 hX
  refine wpIn_loop (fun a W => ∃ (i : Nat) (vE : Value) (E S : List Cel) (Ds : List Nat) (u0 u1 u2 u3 u4 u5 u6 u9 u10 u11 u12 u13 u14 u15 u16 u17 u18 u19 u20 u21 u22 u23 u24 u25 u26 u29 u30 u31 u32 u33 u34 u35 u36 u37 u38 u39 u40 u41 u42 u43 u44 u45 u46 u47 u48 u49 u50 u51 u52 u53 u54 u55 u56 u57 u58 u59 u60 u61 u62 u63 u64 : Value), i ≤ n ∧ a = { tmps := #[u0, u1, u2, u3, u4, u5, u6, .pointer (some ⟨Ab, 0, none⟩), vE, u9, u10, u11, u12, u13, u14, u15, u16, u17, u18, u19, u20, u21, u22, u23, u24, u25, u26, .int .i64 n, .int .i64 i, u29, u30, u31, u32, u33, u34, u35, u36, u37, u38, u39, u40, u41, u42, u43, u44, u45, u46, u47, u48, u49, u50, u51, u52, u53, u54, u55, u56, u57, u58, u59, u60, u61, u62, u63, u64], defers := Ds.map coll } ∧ GrowS w Ab b l i vE E S Ds W) (fun a _ => n - (intOf (a.tmps.getD 28 undef)).toNat) ?start ?round
  case start => exact ⟨0, _, _, _, [], _, _, _, _, _, _, _, _, _, _, _, _, _, _, _, _, _, _, _, _, _, _, _, _, _, _, _, _, _, _, _, _, _, _, _, _, _, _, _, _, _, _, _, _, _, _, _, _, _, _, _, _, _, _, _, _, _, _, _, _, _, Nat.zero_le _, rfl, st0⟩
  case round =>
    clear st0 hl
    rintro a Wo ⟨i, vE, E, S, Ds, u0, u1, u2, u3, u4, u5, u6, u9, u10, u11, u12, u13, u14, u15, u16, u17, u18, u19, u20, u21, u22, u23, u24, u25, u26, u29, u30, u31, u32, u33, u34, u35, u36, u37, u38, u39, u40, u41, u42, u43, u44, u45, u46, u47, u48, u49, u50, u51, u52, u53, u54, u55, u56, u57, u58, u59, u60, u61, u62, u63, u64, hi, rfl, st⟩
    have hro : Fence.wide.round = none := rfl
    have h1 : 1 ≤ 3 := by omega
    rcases Nat.lt_or_eq_of_le hi with hlt | rfl
    · have hi0 : (i : Int) < n := by omega
      have wi := wrapS (n := (i : Int) + 1) (by omega)
      have hform := st.edge.form
      obtain ⟨AE, cE, rfl⟩ := hform
      obtain ⟨Wm, hWm⟩ : ∃ Wm, Wo.alloc (.cells #[.slice none 0 0] 22) = Wm := ⟨_, rfl⟩
      have mid0 : MidS Wo b Wo.heap.size S [] (.slice none 0 0) [] S [] Wm := by
        subst hWm
        exact ⟨st.set.alloc _, st.nd, fun c => by simp, Boxed.new _ _ _, Own.nil _ _, fun c => by simp, List.nodup_nil, Defs.nil _ _, Keep1.of_below (below_alloc _ _)⟩
      gi_wp2
      clear hWm
      refine wpIn_loop (fun a W => ∃ (k : Nat) (vN : Value) (N S' : List Cel) (Dn : List Nat) (u0 u1 u2 u3 u4 u5 u6 u8 u10 u11 u12 u13 u14 u15 u16 u17 u18 u19 u20 u21 u22 u23 u24 u25 u26 u29 u33 u34 u35 u36 u37 u38 u39 u40 u41 u42 u43 u44 u45 u46 u47 u48 u49 u50 u51 u52 u53 u54 u55 u56 u57 u58 u59 u60 u61 u62 u63 u64 : Value), k ≤ E.length ∧ a = { tmps := #[u0, u1, u2, u3, u4, u5, u6, .pointer (some ⟨Ab, 0, none⟩), u8, .pointer (some ⟨Wo.heap.size, 0, none⟩), u10, u11, u12, u13, u14, u15, u16, u17, u18, u19, u20, u21, u22, u23, u24, u25, u26, .int .i64 n, .int .i64 i, u29, .slice AE E.length cE, .int .i64 E.length, .int .i64 k, u33, u34, u35, u36, u37, u38, u39, u40, u41, u42, u43, u44, u45, u46, u47, u48, u49, u50, u51, u52, u53, u54, u55, u56, u57, u58, u59, u60, u61, u62, u63, u64], defers := Dn.map coll ++ Ds.map coll } ∧ MidS Wo b Wo.heap.size S ((E.take k).flatMap nearL) vN N S' Dn W) (fun a _ => E.length - (intOf (a.tmps.getD 32 undef)).toNat) ?start2 ?round2
      case start2 => exact ⟨0, _, _, _, [], _, _, _, _, _, _, _, _, _, _, _, _, _, _, _, _, _, _, _, _, _, _, _, _, _, _, _, _, _, _, _, _, _, _, _, _, _, _, _, _, _, _, _, _, _, _, _, _, _, _, _, _, _, _, _, _, _, _, Nat.zero_le _, rfl, mid0⟩
      case round2 =>
        clear mid0
        rintro a W ⟨k, vN, N, S', Dn, u0, u1, u2, u3, u4, u5, u6, u8, u10, u11, u12, u13, u14, u15, u16, u17, u18, u19, u20, u21, u22, u23, u24, u25, u26, u29, u33, u34, u35, u36, u37, u38, u39, u40, u41, u42, u43, u44, u45, u46, u47, u48, u49, u50, u51, u52, u53, u54, u55, u56, u57, u58, u59, u60, u61, u62, u63, u64, hk, rfl, mid⟩
        rcases Nat.lt_or_eq_of_le hk with hkn | rfl
        · have hAbo : Ab < Wo.heap.size := st.all.lt
          have hAbb : Ab ≠ b := fun e => by
            obtain ⟨es, clock, q1, _⟩ := st.set
            have := st.all
            rw [e] at this
            rw [show Wo.heap[b]? = _ from this] at q1
            cases q1
          have hbo : b < Wo.heap.size := st.set.lt
          have hSE := sl_keep1 st.set st.edge (Nat.le_refl _) mid.keep
          obtain ⟨be, oe, x, y, z, rfl, -, hbe, hce, r0, r1, r2⟩ := hSE.cells hkn
          have hk0 : (0 : Int) ≤ k := by omega
          have hk1 : (k : Int) < E.length := by omega
          have wk := wrapS (n := (k : Int) + 1) (by have := st.elen; omega)
          have hnk : Near (x, y, z) 2000 := (hng i _ ((st.mem _).1 (st.sub _ (List.mem_of_getElem? hce)))).mono (by omega)
          obtain ⟨W2, hW2⟩ : ∃ W2, W2 = W.alloc (.cells #[.int .i64 x, .int .i64 y, .int .i64 z] 34) := ⟨_, rfl⟩
          have hC2 : Boxed3 W2 W.heap.size (x, y, z) := by subst hW2; exact World.alloc_heap_new W _
          have hX2 : Below W.heap.size W W2 := by subst hW2; exact (Below.refl _ _).alloc (Nat.le_refl _) _
          have hs2 : W2.heap.size = W.heap.size + 1 := by subst hW2; simp
          obtain ⟨c0, c1, c2⟩ := hC2.cell
          dsimp only at c0 c1 c2
          have q := neighbours_ok (x, y, z) W2
          unfold cellV at q
          dsimp only at q
          gi_wp2
          rw [← hW2]
          refine ⟨trivial, (callsIn_wide.2 q).mono ?_⟩
          rintro e W3 ⟨rfl, hW3⟩
          have hN3 : W3.heap[W2.heap.size]? = some (.cells (boxC (x, y, z)) 34 (0, 0)) := by rw [hW3]; exact World.alloc_heap_new W2 _
          have hX3 : Below W2.heap.size W2 W3 := by rw [hW3]; exact (Below.refl _ _).alloc (Nat.le_refl _) _
          have hs3 : W3.heap.size = W2.heap.size + 1 := by rw [hW3]; simp
          have hX13 : Below W.heap.size W W3 := hX2.trans (hX3.mono (by omega))
          have mid3 := mid.below hX13
          have hWW : Wo.heap.size ≤ W.heap.size := mid.keep.size
          rw [hs2] at hN3
          have hnotB : vN.ownBlock ≠ some (W.heap.size + 1) := fun e => by
            have := (mid.next.lt _ e).2
            omega
          clear q hW2 hW3 hX2 hX3 hC2 c0 c1 c2 mid r0 r1 r2 hSE
          gi_wp2
          have hBn : W.heap.size + 1 < W3.heap.size := by omega
          clear hs2 hs3
          refine wpIn_rangeFunc_ownH hro h1 (gf := 75) (lb := #[.pointer (some ⟨W.heap.size + 1, 0, none⟩)]) rfl trivial enters_nb
            (neighbours_stopsK Fence.wide 2 trivial rfl (by omega) (W.heap.size + 1) (x, y, z) hnk (fun X Y => Y.heap[W.heap.size + 1]? = X.heap[W.heap.size + 1]?) (fun _ _ h => h) W3 hBn hN3) (fun h1 h2 => h2.trans h1) (fun X ll _ _ hll _ _ _ => putObj_other X ll _ _ (by omega)) (Below.refl _ _) (fun _ => rfl)
            (fun pre Wr => (∃ vN' N' S'', MidS Wo b Wo.heap.size S ((E.take k).flatMap nearL ++ pre) vN' N' S'' Dn Wr ∧ vN'.ownBlock ≠ some (W.heap.size + 1)) ∧ W3.heap.size ≤ Wr.heap.size)
            (fun _ _ _ => False)
            (fun pre X Y row hs hg hr => by
              obtain ⟨⟨vN', N', S'', m1, m2⟩, m3⟩ := hs
              exact ⟨⟨vN', N', S'', m1.turn W3.heap.size hg hr (by omega) (fun _ hD => mid3.defs.lt hD) (by omega), m2⟩, Nat.le_trans m3 hg.size⟩)
            (fun _ _ _ _ _ hs _ _ => hs)
            ⟨⟨vN, N, S', by rw [List.append_nil]; exact mid3, hnotB⟩, Nat.le_refl _⟩
            (fun d a' Wr => ∃ Bx, W3.heap.size ≤ Bx ∧ Boxed3 Wr Bx d ∧ a' = { tmps := #[u0, u1, u2, u3, u4, u5, u6, .pointer (some ⟨Ab, 0, none⟩), u8, .pointer (some ⟨Wo.heap.size, 0, none⟩), u10, .pointer (some ⟨W.heap.size, 0, none⟩), .pointer (some ⟨Bx, 0, none⟩), u13, u14, u15, u16, u17, u18, u19, u20, u21, u22, u23, u24, u25, u26, .int .i64 n, .int .i64 i, u29, .slice (some ⟨be, oe, none⟩) E.length cE, .int .i64 E.length, .int .i64 k, .bool true, .pointer (some ⟨be, oe + k * 3, none⟩), .agg #[.int .i64 x, .int .i64 y, .int .i64 z], .agg #[.int .i64 x, .int .i64 y, .int .i64 z], .func (.func 75) #[] #[.pointer (some ⟨W.heap.size + 1, 0, none⟩)], cellV d, u39, u40, u41, u42, u43, u44, u45, u46, u47, u48, u49, u50, u51, u52, u53, u54, u55, u56, u57, u58, u59, u60, u61, u62, u63, u64], defers := [] })
            (fun d a' _ X Y row hs hg hr => by obtain ⟨Bx, g1, g2, g3⟩ := hs; exact ⟨Bx, g1, Boxed3.own Bx (fun (_ : Unit) => d) () X Y row g2 hg (fun r e => (hr r e).2), g3⟩)
            ?assign ?body ?done ?stop
          case assign =>
            rintro ll pre ⟨dx, dy, dz⟩ Wr K ⟨⟨vN', N', S'', m1, m2⟩, m3⟩ hK
            unfold cellV at hK ⊢
            dsimp only at hK ⊢
            gi_wp2
            exact hK _ _ ((KeepsOthers.alloc _ _).from _) ((below_alloc Wr _).block _ (by omega)) ⟨⟨vN', N', S'', m1.below (below_alloc Wr _), m2⟩, Nat.le_trans m3 (by simp)⟩ ⟨Wr.heap.size, m3, World.alloc_heap_new Wr _, rfl⟩
          case body =>
            rintro ll pre ⟨dx, dy, dz⟩ a' Wr hl' ⟨r, hr⟩ ⟨⟨vN', N', S'', m1, m2⟩, m3⟩ ⟨Bx, hBx, bx, rfl⟩ hlt2
            have bA : Boxed Wr Ab 78 (.map (some b)) := (m1.keep.block _ hAbo hAbb).trans st.all
            have cA := bA.cell
            have hset := m1.set
            obtain ⟨c0, c1, c2⟩ := bx.cell
            dsimp only at c0 c1 c2
            by_cases hd : (dx, dy, dz) ∈ S''
            · have hd' : decide ((dx, dy, dz) ∈ S'') = true := decide_eq_true hd
              have Hd := Lib.hid hd
              clear hd hnk hce
              gi_wp2_with (gi_at_lookup; refine wpListIn_lookup_set rfl _ _ _ rfl Tryz.underlying78 b S'' rfl hset (dx, dy, dz) rfl true hd' ?_)
              refine ⟨KeepsFrom.refl _ _, rfl, ⟨vN', N', S'', ⟨m1.set, m1.nd, fun c => ?_, m1.box, m1.next, m1.nmem, m1.nnd, m1.defs, m1.keep⟩, m2⟩, m3⟩
              rw [m1.mem c, ← List.append_assoc, List.mem_append (t := [(dx, dy, dz)])]
              constructor
              · rintro (h | h)
                · exact .inl h
                · exact .inr (.inl h)
              · rintro (h | h | h)
                · exact .inl h
                · exact .inr h
                · simp at h
                  subst h
                  exact (m1.mem _).1 Hd.out
            · have hd' : decide ((dx, dy, dz) ∈ S'') = false := decide_eq_false hd
              have hszr : Wo.heap.size ≤ Wr.heap.size := m1.keep.size
              have hsub : ∀ c ∈ S'', c ∈ growN (i + 1) l ∨ c ∈ pre := fun c hc => by
                rcases (m1.mem c).1 hc with h | h
                · exact .inl (mem_step.2 (.inl ((st.mem c).1 h)))
                · rcases List.mem_append.1 h with h | h
                  · obtain ⟨e, he, h⟩ := List.mem_flatMap.1 h
                    exact .inl (mem_step.2 (.inr ⟨e, (st.mem e).1 (st.sub e (List.mem_of_mem_take he)), h⟩))
                  · exact .inr h
              have hS6 : S''.length ≤ 4000 + pre.length := len_split m1.nd hsub (hbig (i + 1) hlt)
              have hpl : pre.length < 6 := hlt2
              have hlenN : N'.length ≤ 200000 := by
                have h := nodup_len m1.nnd fun c hc => ((m1.nmem c).1 hc).1
                omega
              have hadd : addC (dx, dy, dz) S'' = S'' ++ [(dx, dy, dz)] := by unfold addC; rw [if_neg hd]
              have hndA : (addC (dx, dy, dz) S'').Nodup := nodup_addC m1.nd
              have hsmall : (addC (dx, dy, dz) S'').length ≤ 4096 := by
                rw [hadd, List.length_append]
                simp
                omega
              have Hd := Lib.hid hd
              have hbB : b < Wr.heap.size := m1.set.lt
              have hbnN : b ≠ Wo.heap.size := by omega
              have hAn : Ab ≠ Wo.heap.size := by omega
              clear hd hnk hce hr
              gi_wp2_with (first
                | (gi_at_lookup; refine wpListIn_lookup_set rfl _ _ _ rfl Tryz.underlying78 b S'' rfl hset (dx, dy, dz) rfl false hd' ?_)
                | (gi_at_mapUpdate; refine wpListIn_update_set rfl _ _ _ _ rfl Tryz.underlying78 b S'' rfl hset (dx, dy, dz) rfl rfl ?_; intro w4 hset4 hgm; have bA4 := bA.kept hgm (fun e => by cases e; exact hAbb rfl); have cA4 := bA4.cell; have bx4 : Boxed3 w4 Bx (dx, dy, dz) := (hgm.block Bx (Array.getElem?_eq_some_iff.1 bx).1 (fun e => by cases e; omega)).trans bx; have ⟨e0, e1, e2⟩ := bx4.cell; dsimp only at e0 e1 e2; have bN4 := m1.box.kept hgm (fun e => by cases e; exact hbnN rfl); have cN4 := bN4.cell; have hown4 : Own w4 Wo.heap.size vN' N' := World.ownsRow.kept m1.next hgm (.inr fun e => by have := (m1.next.lt _ e).1; omega); have hsz4 : Wo.heap.size ≤ w4.heap.size := Nat.le_trans hszr hgm.size)
                | (gi_at_builtin; refine wpListIn_append_one rfl _ _ rfl Wo.heap.size hsz4 vN' N' rfl hown4 (dx, dy, dz) rfl (by omega) ?_; intro v' w5 hown' hgrow hat hform; obtain ⟨g', cap', rfl⟩ := hform; obtain ⟨hv1, hv2, hr2, hk2, hb2⟩ := bN4.appended (by decide) hown4 hsz4 (Nat.le_refl _) hown' hgrow; have cv1 := hv1.cell; have fv1 := hv1.frozen; have bA5 := (bA4.alloc (.cells #[.int .i64 dx, .int .i64 dy, .int .i64 dz] 34)).kept hgrow (bA4.not_row (by decide) hown4); have cA5 := bA5.cell; have hset5 : CSet (w5.setCell ⟨Wo.heap.size, 0, none⟩ (.slice (some ⟨g', 0, none⟩) (N'.length + 1) cap')) b (addC (dx, dy, dz) S'') := (by obtain ⟨es, clock, q1, q2⟩ := hset4; exact ⟨es, clock, hk2.same _ _ q1 rfl, q2⟩); obtain ⟨es, clock, hbm, hbs⟩ := hset5.len; have hlen5 := run_len_map hbm; have hle5 : ¬ (4096 : Int) < (es.size : Int) := (by rw [hbs, List.length_map]; omega); clear hbs))
              have hBnr : W.heap.size + 1 < Wr.heap.size := by omega
              have hBnb : W.heap.size + 1 ≠ b := by omega
              have e4 : w4.heap[W.heap.size + 1]? = Wr.heap[W.heap.size + 1]? := hgm.block _ hBnr (fun e => by cases e; exact hBnb rfl)
              have hs4 : Wr.heap.size ≤ w4.heap.size := hgm.size
              have e5 : w5.heap[W.heap.size + 1]? = w4.heap[W.heap.size + 1]? := (hgrow.block _ (by simp; omega) (fun e => m2 e.symm)).trans ((below_alloc w4 _).block _ (by omega))
              have e6 := (heap_setCell_other w5 ⟨Wo.heap.size, 0, none⟩ (W.heap.size + 1) (.slice (some ⟨g', 0, none⟩) (N'.length + 1) cap') (by dsimp only; omega)).trans (e5.trans e4)
              have hnS : (dx, dy, dz) ∉ S := fun h => Hd.out ((m1.mem _).2 (.inl h))
              refine ⟨(KeepsFrom.of_grownBy hgm (fun j e => by cases e; omega)).trans (hk2.from _), e6, ⟨_, ⟨N' ++ [(dx, dy, dz)], addC (dx, dy, dz) S'', hset5, hndA, fun c => ?_, hv2, hr2, fun c => ?_, ?_, ⟨m1.defs.1, fun D hD => ⟨(m1.defs.2 D hD).1, hk2.same _ _ ((hgm.block _ (m1.defs.lt hD) fun e => ?_).trans (m1.defs.2 D hD).2) rfl⟩⟩, m1.keep.trans ((Keep1.of_grown hgm hszr fun j e => by cases e; exact .inl rfl).trans (Keep1.of_below hb2))⟩, fun e => ?_⟩, Nat.le_trans m3 (Nat.le_trans hs4 hb2.size)⟩
              · rw [mem_addC, m1.mem c, List.mem_append, List.mem_append, List.mem_append, List.mem_singleton]
                constructor
                · rintro (h | h | h | h)
                  · exact .inr (.inr (.inr h))
                  · exact .inl h
                  · exact .inr (.inl h)
                  · exact .inr (.inr (.inl h))
                · rintro (h | h | h | h)
                  · exact .inr (.inl h)
                  · exact .inr (.inr (.inl h))
                  · exact .inr (.inr (.inr h))
                  · exact .inl h
              · rw [mem_addC, List.mem_append, List.mem_singleton, m1.nmem c]
                constructor
                · rintro (⟨h1, h2⟩ | rfl)
                  · exact ⟨.inr h1, h2⟩
                  · exact ⟨.inl rfl, hnS⟩
                · rintro ⟨h1 | h1, h2⟩
                  · exact .inr h1
                  · exact .inl ⟨h1, h2⟩
              · refine List.nodup_append.2 ⟨m1.nnd, by simp, ?_⟩
                rintro p hp q hq rfl
                simp at hq
                subst hq
                exact Hd.out ((m1.nmem _).1 hp).1
              · cases e
                obtain ⟨es', clock', q1, _⟩ := m1.set
                rw [(m1.defs.2 _ hD).2] at q1
                cases q1
              · rcases hat with h | h
                · rw [h] at e
                  exact m2 e
                · rw [h] at e
                  injection e with e
                  omega
          case done =>
            rintro D ys Wr hD rfl ⟨⟨vN', N', S'', m1, m2⟩, m3⟩ hK
            have hPk : (E.take (k + 1)).flatMap nearL = (E.take k).flatMap nearL ++ nearL (x, y, z) := by
              rw [List.take_add_one, hce]
              simp [List.flatMap_append]
            have mid4 : MidS Wo b Wo.heap.size S ((E.take (k + 1)).flatMap nearL) vN' N' S'' (D :: Dn) Wr := by
              rw [hPk]
              refine ⟨m1.set, m1.nd, m1.mem, m1.box, m1.next, m1.nmem, m1.nnd, ⟨List.nodup_cons.2 ⟨fun h => ?_, m1.defs.1⟩, fun F hF => ?_⟩, m1.keep⟩
              · have := mid3.defs.lt h
                omega
              · rcases List.mem_cons.1 hF with rfl | hF
                · exact ⟨by omega, hK⟩
                · exact m1.defs.2 F hF
            clear hPk hce hnk m1
            gi_wp2
            exact ⟨⟨k + 1, vN', N', S'', D :: Dn, _, _, _, _, _, _, _, _, _, _, _, _, _, _, _, _, _, _, _, _, _, _, _, _, _, _, _, _, _, _, _, _, _, _, _, _, _, _, _, _, _, _, _, _, _, _, _, _, _, _, _, _, _, _, _, _, _, _, hkn, rfl, mid4⟩, by simp [intOf]; omega⟩
          case stop =>
            rintro D c pre Wr _ _ h _
            exact h.elim
        · have hAbo : Ab < Wo.heap.size := st.all.lt
          have hAbb : Ab ≠ b := fun e => by
            obtain ⟨es, clock, q1, _⟩ := st.set
            have := st.all
            rw [e] at this
            rw [show Wo.heap[b]? = _ from this] at q1
            cases q1
          have cN := mid.box.cell
          rw [List.take_length] at mid
          have hmem : ∀ c, c ∈ S' ↔ c ∈ growN (i + 1) l := fun c => by
            rw [mid.mem c]
            refine Iff.trans ?_ mem_step.symm
            constructor
            · rintro (h | h)
              · exact .inl ((st.mem c).1 h)
              · obtain ⟨e, he, h⟩ := List.mem_flatMap.1 h
                exact .inr ⟨e, (st.mem e).1 (st.sub e he), h⟩
            · rintro (h | ⟨d, hd, h⟩)
              · exact .inl ((st.mem c).2 h)
              · by_cases hdE : d ∈ E
                · exact .inr (List.mem_flatMap.2 ⟨d, hdE, h⟩)
                · exact .inl (st.done d ((st.mem d).2 hd) hdE c h)
          have hS4 := hbig (i + 1) hlt S' mid.nd fun c hc => (hmem c).1 hc
          have hN4 : N.length ≤ S'.length := nodup_len mid.nnd fun c hc => ((mid.nmem c).1 hc).1
          have st4 : GrowS w Ab b l (i + 1) vN N S' (Dn ++ Ds) W := by
            refine ⟨(mid.keep.block _ hAbo hAbb).trans st.all, mid.set, mid.nd, hmem, fun c hc hcN d hd => ?_, fun c hc => ((mid.nmem c).1 hc).1, mid.next.sl, by omega, st.hb, st.hAb, ⟨?_, fun D hD => ?_⟩, st.below.trans ⟨mid.keep.os, mid.keep.tape, mid.keep.output, mid.keep.size, fun j hj => mid.keep.block j (Nat.lt_of_lt_of_le hj st.below.size) (by have := st.hb; omega)⟩⟩
            · have hcS : c ∈ S := Decidable.byContradiction fun h => hcN ((mid.nmem c).2 ⟨hc, h⟩)
              by_cases hcE : c ∈ E
              · exact (mid.mem d).2 (.inr (List.mem_flatMap.2 ⟨c, hcE, hd⟩))
              · exact (mid.mem d).2 (.inl (st.done c hcS hcE d hd))
            · refine List.nodup_append.2 ⟨mid.defs.1, st.defs.1, ?_⟩
              rintro p hp q hq rfl
              have h1 := (mid.defs.2 _ hp).1
              have h2 := st.defs.lt hq
              omega
            · rcases List.mem_append.1 hD with hD | hD
              · exact ⟨Nat.le_trans st.below.size (mid.defs.2 D hD).1, (mid.defs.2 D hD).2⟩
              · refine ⟨(st.defs.2 D hD).1, (mid.keep.block D (st.defs.lt hD) fun e => ?_).trans (st.defs.2 D hD).2⟩
                obtain ⟨es, clock, q1, _⟩ := st.set
                rw [← e, (st.defs.2 D hD).2] at q1
                cases q1
          clear hmem
          gi_wp2
          exact ⟨⟨i + 1, vN, N, S', Dn ++ Ds, _, _, _, _, _, _, _, _, _, _, _, _, _, _, _, _, _, _, _, _, _, _, _, _, _, _, _, _, _, _, _, _, _, _, _, _, _, _, _, _, _, _, _, _, _, _, _, _, _, _, _, _, _, _, _, _, _, _, _, _, _, hlt, by rw [List.map_append]; rfl, st4⟩, by simp [intOf]; omega⟩
    · have cA := st.all.cell
      obtain ⟨es, clock, hbm, hmap, hborn, hbnd⟩ := st.set
      have hsz : es.size = S.length := by
        have := congrArg List.length hmap
        simpa using this
      have hS4 := hbig i (Nat.le_refl _) S st.nd fun c hc => (st.mem c).1 hc
      have hlen5 := run_len_map hbm
      have hle5 : ¬ (4096 : Int) < (es.size : Int) := by omega
      have hkeys : es.toList.map (·.key) = S.map cellV := by
        have := congrArg (List.map Prod.fst) hmap
        simpa [List.map_map, Function.comp_def] using this
      obtain ⟨kc, hkc⟩ : ∃ kc : MapEntry → Cel, ∀ e, kc e = (match e.key with | .agg ⟨[.int .i64 x, .int .i64 y, .int .i64 z]⟩ => (x, y, z) | _ => (0, 0, 0)) := ⟨fun e => match e.key with | .agg ⟨[.int .i64 x, .int .i64 y, .int .i64 z]⟩ => (x, y, z) | _ => (0, 0, 0), fun _ => rfl⟩
      have hk1 : ∀ e ∈ es.toList, e.key = cellV (kc e) := fun e he => by
        have h : e.key ∈ S.map cellV := by rw [← hkeys]; exact List.mem_map.2 ⟨e, he, rfl⟩
        obtain ⟨c, _, hc⟩ := List.mem_map.1 h
        rw [hkc, ← hc]
        rfl
      have hk2 : es.toList.map kc = S := by
        have h : (es.toList.map kc).map cellV = S.map cellV := by
          rw [← hkeys, List.map_map]
          exact List.map_congr_left fun e he => (hk1 e he).symm
        exact cellV_maps _ _ h
      have q := fun W (h : Below Wo.heap.size Wo W) => cells_ok b es clock kc W ((h.block b (Array.getElem?_eq_some_iff.1 hbm).1).trans hbm) hk1 (by omega) hborn hbnd (by rw [hk2]; exact st.nd)
      rw [hk2, hsz] at q
      have hdefs := st.defs
      have hbel := st.below
      have hmem : ∀ c, c ∈ sortC S ↔ c ∈ growN i l := fun c => mem_sortC.trans (st.mem c)
      have hupX := upSortG st.nd
      have hlenX : (sortC S).length = S.length := sortC_len S
      have q0 := q Wo (Below.refl _ _)
      clear st hmap hborn hbnd hbm hkeys hkc hk1 hk2 q hbig hup hng hnear0
      generalize sortC S = X at q0 hmem hupX hlenX
      gi_wp2
      refine ⟨trivial, (callsIn_wide.2 q0).mono ?_⟩
      rintro e w7 ⟨B, rfl, hBB, hF, hB7⟩
      have hS7 : Sl w7 (.slice (some ⟨B, 0, none⟩) S.length S.length) X := by
        have := Sl.row (cap := S.length) hF.row hF.lt
        rwa [hlenX] at this
      have q1 := checkEachG X _ w7 hS7 (by unfold maxLen; omega)
      clear q0 hS7 hlen5 hle5 hsz
      gi_wp2
      refine ⟨trivial, (callsIn_wide.2 q1).mono ?_⟩
      rintro e w8 ⟨rfl, hB8⟩
      obtain ⟨arr, f1, f2, f3⟩ := hF
      have hB78 := hB7.trans (hB8.mono hB7.size)
      have f1' : w8.heap[B]? = some (.cells arr 34 (0, 0)) := (hB8.block _ (Array.getElem?_eq_some_iff.1 f1).1).trans f1
      have hdefs8 : Defs w8 w.heap.size Ds := hdefs.keep fun D hD => hB78.block _ (hdefs.lt hD)
      have hbel8 := hbel.trans (hB78.mono hbel.size)
      clear q1 hdefs hbel hB7 hB8 hB78 f1
      by_cases h0 : outI X = 0
      · have H0 := Lib.hid h0
        rw [h0]
        clear h0
        gi_wp2
        refine leaves_all (B := w.heap.size) Ds _ hdefs8 fun W' hW' => ?_
        have hFW : Filled W' B S.length 34 X := ⟨arr, hW'.cells _ _ f1' rfl, f2, f3⟩
        have hSW : Sl W' (.slice (some ⟨B, 0, none⟩) S.length S.length) X := by
          have := Sl.row (cap := S.length) hFW.row hFW.lt
          rwa [hlenX] at this
        exact ⟨_, results_tmp2 rfl _ _ _, X, hupX, hmem, by omega, .inr ⟨H0.out, _, rfl, hSW, B, by rw [hlenX]⟩, hbel8.trans ⟨hW'.os, hW'.tape, hW'.output, Nat.le_of_eq hW'.size.symm, hW'.below⟩⟩
      · have H0 := Lib.hid h0
        have hne : (outI X != 0) = true := by rw [bne_iff_ne]; exact h0
        clear h0
        gi_wp2
        refine leaves_all (B := w.heap.size) Ds _ hdefs8 fun W' hW' => ?_
        exact ⟨_, results_tmp2 rfl _ _ _, X, hupX, hmem, by omega, .inl ⟨H0.out, rfl⟩, hbel8.trans ⟨hW'.os, hW'.tape, hW'.output, Nat.le_of_eq hW'.size.symm, hW'.below⟩⟩
theorem growG_ok (l : List Cel) (v : Value) (n : Nat) (w : World) (hl : Sl w v l) (hc : chkI l = 0) (hn64 : n ≤ 64)
    (hbig : ∀ i, i ≤ n → ∀ S : List Cel, S.Nodup → (∀ c ∈ S, c ∈ growN i l) → S.length ≤ 4000) :
    Calls Tryz.prog 16 #[v, .int .i64 n] w fun e w' => ∃ X, Up X ∧ (∀ c, c ∈ X ↔ c ∈ growN n l) ∧ X.length ≤ 4096 ∧ ((outI X ≠ 0 ∧ e = .returned (.tuple #[.slice none 0 0, .int .i64 (outI X)])) ∨ (outI X = 0 ∧ ∃ v', e = .returned (.tuple #[v', .int .i64 0]) ∧ Sl w' v' X)) ∧ Below w.heap.size w w' := by
  refine (growG_okS l v n w hl hc hn64 hbig).mono ?_
  rintro e w' ⟨X, h1, h2, h3, h4, h5⟩
  refine ⟨X, h1, h2, h3, ?_, h5⟩
  rcases h4 with h | ⟨h, v', e1, e2, _⟩
  · exact .inl h
  · exact .inr ⟨h, v', e1, e2⟩
end Go.Proofs
