/- peel: the shell of a set, and the rest. -/
import Derived.Test.YtfdhppdkgfioaaaGreatDoorPthP
import Derived.Test.YtfdhppdkgfioaaaGreatDoorSetOf
namespace Go.Proofs
open Go.RowKit Go.Shelf
set_option maxHeartbeats 16000000
set_option maxRecDepth 1000000
attribute [local go_sem] Oper.semAt_some
/-- All neighbours of a cell are in a set. -/
def insB (l : List Cel) (c : Cel) : Bool := (nearL c).all fun d => decide (d ∈ l)
theorem enters_nb : ∀ args w, (callFunc 114 args).run Tryz.prog w = .ok (.enter 114 args) w := enters_of Tryz.func114 (by kernel_rfl) rfl
/-- Some of the cells are not in a set. -/
def Missed (pre l : List Cel) : Prop := ∃ d, d ∈ pre ∧ d ∉ l
theorem missed_snoc (pre : List Cel) {d : Cel} {l : List Cel} (h : d ∉ l) : Missed (pre ++ [d]) l := ⟨d, List.mem_append.2 (.inr (List.mem_singleton.2 rfl)), h⟩
theorem missed_ins {pre l : List Cel} {c : Cel} (hp : pre <+: nearL c) (h : Missed pre l) : insB l c = false := by
  obtain ⟨d, h1, h2⟩ := h
  cases hb : insB l c with
  | false => rfl
  | true => exact absurd (of_decide_eq_true (List.all_eq_true.1 hb d (hp.subset h1))) h2
/-- Whose blocks are apart. -/
def ApartV (v u : Value) : Prop := v.ownBlock = none ∨ u.ownBlock = none ∨ v.ownBlock ≠ u.ownBlock
theorem Own.grownV {w w' : World} {B : Nat} {v : Value} {l : List Cel} {row : Option Nat} (h : Own w B v l) (hg : w.grownBy w' row) (hne : v.ownBlock = none ∨ v.ownBlock ≠ row) : Own w' B v l := World.ownsRow.kept h hg hne
theorem apart_one {w w' : World} {B : Nat} {v v' u : Value} {l : List Cel} {tmp : Obj} (hu : Own w B u l) (ha : ApartV v u) (hg : (w.alloc tmp).grownBy w' v.ownBlock) (hv : v'.ownBlock = v.ownBlock ∨ v'.ownBlock = some (w.heap.size + 1)) : Own w' B u l ∧ ApartV v' u := by
  have hu' := hu.alloc tmp
  refine ⟨hu'.grownV hg ?_, ?_⟩
  · rcases ha with h | h | h
    · rw [h]
      cases hub : u.ownBlock with
      | none => exact .inl rfl
      | some g => exact .inr (by simp)
    · exact .inl h
    · exact .inr (Ne.symm h)
  · rcases hv with h | h
    · rw [show ApartV v' u = (v'.ownBlock = none ∨ u.ownBlock = none ∨ v'.ownBlock ≠ u.ownBlock) from rfl, h]
      exact ha
    · refine .inr ?_
      cases hub : u.ownBlock with
      | none => exact .inl rfl
      | some g =>
        refine .inr ?_
        rw [h]
        intro e
        have := (hu'.lt g hub).2
        rw [World.size_alloc] at this
        injection e with e
        omega
theorem ApartV.symm {v u : Value} (h : ApartV v u) : ApartV u v := by
  rcases h with h | h | h
  · exact .inr (.inl h)
  · exact .inl h
  · exact .inr (.inr (Ne.symm h))
theorem Own.frame3 {n B : Nat} {W W' : World} {v : Value} {l : List Cel} (h : Own W B v l) (hF : Frame3 n W W') : Own W' B v l := ⟨h.1, h.2.imp id fun ⟨g, cap, cur, h1, h2, hg, r⟩ => ⟨g, cap, cur, h1, h2, hF.cells g _ hg rfl, r⟩⟩
theorem Own.spent {n B : Nat} {W W' : World} {v : Value} {l : List Cel} (h : Own W B v l) (hF : Spent n W W') : Own W' B v l := ⟨h.1, h.2.imp id fun ⟨g, cap, cur, h1, h2, hg, r⟩ => ⟨g, cap, cur, h1, h2, hF.cells g _ hg rfl, r⟩⟩
/-- The loop's state between two rounds. -/
structure PeelS (w : World) (Ab b : Nat) (l : List Cel) (k : Nat) (vR vS : Value) (Ds : List Nat) (W : World) : Prop where
  box : Boxed W w.heap.size 22 vS
  shell : Own W w.heap.size vS ((l.take k).filter fun c => !insB l c)
  rest : Own W w.heap.size vR ((l.take k).filter (insB l))
  apart : ApartV vR vS
  all : Boxed W Ab 157 (.map (some b))
  set : CSet W b (setL l)
  hb : w.heap.size ≤ b
  hA : w.heap.size < Ab
  defs : Defs W w.heap.size Ds
  below : Below w.heap.size w W
theorem peel_ok (l : List Cel) (v : Value) (w : World) (hl : Sl w v l) (hn : l.length ≤ 100000) (hnear : ∀ c ∈ l, Near c 2000) :
    Calls Tryz.prog 52 #[v] w fun e w' => ∃ v1 v2, e = .returned (.tuple #[v1, v2]) ∧ Own w' w.heap.size v1 (l.filter fun c => !insB l c) ∧ Own w' w.heap.size v2 (l.filter (insB l)) ∧ Below w.heap.size w w' := by
  obtain ⟨A, cap, rfl⟩ := hl.form
  have hset := fun W (h : Below w.heap.size w W) => setOf_ok l _ W (hl.below h) (by unfold maxLen; omega)
  refine (callsIn_wide (n := 3)).1 ?_
  refine callsIn_of_wp_marks Tryz.func52 rfl trivial ?_ rfl
  simp only [Tryz.ntmps52, List.size_toArray, List.length_cons, List.length_nil, Nat.reduceAdd, Nat.reduceSub, Array.replicate_succ, Array.replicate_zero, List.push_toArray, List.append_toArray, List.nil_append, List.cons_append]
  have bS := Boxed.new w 22 (.slice none 0 0)
  have hB0 : Below w.heap.size w (w.alloc (.cells #[.slice none 0 0] 22)) := (Below.refl _ w).alloc (Nat.le_refl _) _
  have hsz0 : (w.alloc (.cells #[.slice none 0 0] 22)).heap.size = w.heap.size + 1 := by simp
  have q := hset _ hB0
  gi_wp2
  refine wpIn_scope_straight ?_
  gi_wp2
  refine ⟨trivial, (callsIn_wide.2 q).mono ?_⟩
  rintro e w1 ⟨b, rfl, hb, hset1, hB1⟩
  rw [hsz0] at hb
  have hBw1 := hB0.trans (hB1.mono hB0.size)
  have bS1 : Boxed w1 w.heap.size 22 (.slice none 0 0) := (hB1.block _ (by omega)).trans bS
  clear q hset
  gi_wp2
  refine wpIn_label ?_
  gi_wp2
  generalize hAb : w1.heap.size = Ab
  obtain ⟨W1, hW1⟩ : ∃ W1, w1.alloc (.cells #[.map (some b)] 157) = W1 := ⟨_, rfl⟩
  have st0 : PeelS w Ab b l 0 (.slice none 0 0) (.slice none 0 0) [] W1 := by
    subst hW1
    subst hAb
    exact ⟨bS1.alloc _, by simpa using Own.nil _ _, by simpa using Own.nil _ _, .inl rfl, Boxed.new _ _ _, hset1.alloc _, by omega, by have := hBw1.size; have := bS1.lt; omega, Defs.nil _ _, hBw1.alloc hBw1.size _⟩
  rw [hW1]
  clear hW1 hAb bS1 hBw1 hset1 hb hB1 bS hB0 hsz0
  refine wpIn_loop (fun a W => ∃ (k : Nat) (vR vS : Value) (Ds : List Nat) (u5 u6 u7 u13 u14 u15 u16 u17 u18 u19 u20 u21 u22 u23 u24 u25 u26 u27 u28 u29 u30 u31 u32 u33 : Value), k ≤ l.length ∧ a = { tmps := #[.slice A l.length cap, undef, .pointer (some ⟨w.heap.size, 0, none⟩), vR, .pointer (some ⟨Ab, 0, none⟩), u5, u6, u7, .slice A l.length cap, .map (some b), .slice A l.length cap, .int .i64 l.length, .int .i64 k, u13, u14, u15, u16, u17, u18, u19, u20, u21, u22, u23, u24, u25, u26, u27, u28, u29, u30, u31, u32, u33], defers := Ds.map coll } ∧ PeelS w Ab b l k vR vS Ds W) (fun a _ => l.length - (intOf (a.tmps.getD 12 undef)).toNat) ?start ?round
  case start => exact ⟨0, _, _, [], _, _, _, _, _, _, _, _, _, _, _, _, _, _, _, _, _, _, _, _, _, _, _, _, Nat.zero_le _, rfl, st0⟩
  case round =>
    clear st0
    rintro a W ⟨k, vR, vS, Ds, u5, u6, u7, u13, u14, u15, u16, u17, u18, u19, u20, u21, u22, u23, u24, u25, u26, u27, u28, u29, u30, u31, u32, u33, hk, rfl, st⟩
    have hro : Fence.wide.round = none := rfl
    have h1 : 1 ≤ 3 := by omega
    rcases Nat.lt_or_eq_of_le hk with hkn | rfl
    · obtain ⟨bk, o, x, y, z, rfl, -, hbk, hc, r0, r1, r2⟩ := hl.cells hkn
      have hk0 : (0 : Int) ≤ k := by omega
      have hk1 : (k : Int) < l.length := by omega
      rw [← st.below.cell (p := ⟨bk, _, none⟩) hbk] at r0 r1 r2
      have hnk := hnear _ (List.mem_of_getElem? hc)
      obtain ⟨W2, hW2⟩ : ∃ W2, W2 = W.alloc (.cells #[.int .i64 x, .int .i64 y, .int .i64 z] 24) := ⟨_, rfl⟩
      have hC2 : Boxed3 W2 W.heap.size (x, y, z) := by subst hW2; exact World.alloc_heap_new W _
      have hX2 : Below W.heap.size W W2 := by subst hW2; exact (Below.refl _ _).alloc (Nat.le_refl _) _
      have hs2 : W2.heap.size = W.heap.size + 1 := by subst hW2; simp
      obtain ⟨c0, c1, c2⟩ := hC2.cell
      dsimp only at c0 c1 c2
      have q := neighbours_ok (x, y, z) W2
      unfold cellV at q
      dsimp only at q
      gi_wp2
      rw [← hW2]
      refine ⟨trivial, (callsIn_wide.2 q).mono ?_⟩
      rintro e W3 ⟨rfl, hW3⟩
      have hN3 : W3.heap[W2.heap.size]? = some (.cells (boxC (x, y, z)) 24 (0, 0)) := by rw [hW3]; exact World.alloc_heap_new W2 _
      have hX3 : Below W2.heap.size W2 W3 := by rw [hW3]; exact (Below.refl _ _).alloc (Nat.le_refl _) _
      have hs3 : W3.heap.size = W2.heap.size + 1 := by rw [hW3]; simp
      have hC3 : Boxed3 W3 W.heap.size (x, y, z) := (hX3.block _ (by omega)).trans hC2
      have hX13 : Below W.heap.size W W3 := hX2.trans (hX3.mono (by omega))
      have st3 : PeelS w Ab b l k vR vS Ds W3 := ⟨(hX13.block _ st.box.lt).trans st.box, st.shell.keep hX13, st.rest.keep hX13, st.apart, (hX13.block _ st.all.lt).trans st.all, st.set.below hX13 st.set.lt, st.hb, st.hA, st.defs.keep fun D hD => hX13.block _ (st.defs.lt hD), st.below.trans (hX13.mono st.below.size)⟩
      have hW3s : W.heap.size < W3.heap.size := by omega
      rw [hs2] at hN3
      clear q hW2 hW3 hX2 hX3 hC2 c0 c1 c2 st r0 r1 r2
      gi_wp2
      have hBn : W.heap.size + 1 < W3.heap.size := by omega
      clear hs2 hs3
      refine wpIn_rangeFunc_ownH hro h1 (gf := 114) (lb := #[.pointer (some ⟨W.heap.size + 1, 0, none⟩)]) rfl trivial enters_nb
        (neighbours_stops Fence.wide 2 trivial rfl (by omega) (W.heap.size + 1) W3.heap.size (x, y, z) hnk hBn W3 (Nat.le_refl _) hN3) belowK_t (belowK_b (Nat.le_refl _)) (Below.refl _ _) (fun _ => rfl)
        (fun pre Wr => (∀ d ∈ pre, d ∈ l) ∧ Below W3.heap.size W3 Wr)
        (fun c pre Wr => ∃ W', (W3.heap.size ≤ W'.heap.size ∧ c = .exit 1 ∧ Missed pre l ∧ ∃ vS', Boxed W' w.heap.size 22 vS' ∧ Own W' w.heap.size vS' (((l.take k).filter fun c => !insB l c) ++ [(x, y, z)]) ∧ Own W' w.heap.size vR ((l.take k).filter (insB l)) ∧ ApartV vR vS' ∧ Boxed W' Ab 157 (.map (some b)) ∧ Below w.heap.size w W' ∧ CSet W' b (setL l) ∧ Defs W' w.heap.size Ds) ∧ Frame3 W3.heap.size W' Wr)
        (OwnFrom.and (ownFrom_pure _ _) (ownFrom_below (Nat.le_refl _) (Nat.le_refl _)))
        (fun c => frame_own (fun _ _ h => h.1))
        ⟨fun d hd => by simp at hd, Below.refl _ _⟩
        (fun d a' Wr => ∃ Bx, W3.heap.size ≤ Bx ∧ Boxed3 Wr Bx d ∧ a' = { tmps := #[.slice (some ⟨bk, o, none⟩) l.length cap, undef, .pointer (some ⟨w.heap.size, 0, none⟩), vR, .pointer (some ⟨Ab, 0, none⟩), u5, .pointer (some ⟨W.heap.size, 0, none⟩), .pointer (some ⟨Bx, 0, none⟩), .slice (some ⟨bk, o, none⟩) l.length cap, .map (some b), .slice (some ⟨bk, o, none⟩) l.length cap, .int .i64 l.length, .int .i64 k, .bool true, .pointer (some ⟨bk, o + k * 3, none⟩), .agg #[.int .i64 x, .int .i64 y, .int .i64 z], .agg #[.int .i64 x, .int .i64 y, .int .i64 z], .func (.func 114) #[] #[.pointer (some ⟨W.heap.size + 1, 0, none⟩)], cellV d, u19, u20, u21, u22, u23, u24, u25, u26, u27, u28, u29, u30, u31, u32, u33], defers := [] })
        (fun d a' _ X Y row hs hg hr => by obtain ⟨Bx, g1, g2, g3⟩ := hs; exact ⟨Bx, g1, Boxed3.own Bx (fun (_ : Unit) => d) () X Y row g2 hg (fun r e => (hr r e).2), g3⟩)
        ?assign ?body ?done ?stop
      case assign =>
        rintro ll pre ⟨dx, dy, dz⟩ Wr K ⟨hp, hB⟩ hK
        unfold cellV at hK ⊢
        dsimp only at hK ⊢
        gi_wp2
        exact hK _ _ ((KeepsOthers.alloc _ _).from _) ((Below.refl _ Wr).alloc hB.size _) ⟨hp, hB.alloc hB.size _⟩ ⟨Wr.heap.size, hB.size, World.alloc_heap_new Wr _, rfl⟩
      case body =>
        rintro ll pre ⟨dx, dy, dz⟩ a' Wr hl' ⟨r, hr⟩ ⟨hp, hB⟩ ⟨Bx, hBx, bx, rfl⟩ hlt
        have bA : Boxed Wr Ab 157 (.map (some b)) := (hB.block _ st3.all.lt).trans st3.all
        have cA := bA.cell
        have hset := st3.set.below hB st3.set.lt
        obtain ⟨c0, c1, c2⟩ := bx.cell
        dsimp only at c0 c1 c2
        by_cases hd : (dx, dy, dz) ∈ l
        · have hr' : decide ((dx, dy, dz) ∈ setL l) = true := decide_eq_true (mem_setL.2 hd)
          have Hd := Lib.hid hd
          clear hd hnk hl hc
          gi_wp2_with (gi_at_lookup; refine wpListIn_lookup_set rfl _ _ _ rfl Tryz.underlying157 b (setL l) rfl hset (dx, dy, dz) rfl true hr' ?_)
          refine ⟨KeepsFrom.refl _ _, Below.refl _ _, fun d hdm => ?_, hB⟩
          rcases List.mem_append.1 hdm with h | h
          · exact hp d h
          · simp at h
            subst h
            exact Hd.out
        · have hr' : decide ((dx, dy, dz) ∈ setL l) = false := decide_eq_false fun h => hd (mem_setL.1 h)
          have Hd := Lib.hid hd
          have bS : Boxed Wr w.heap.size 22 vS := (hB.block _ st3.box.lt).trans st3.box
          have cS := bS.cell
          have hSr := st3.shell.keep hB
          have hRr := st3.rest.keep hB
          have hbC : Boxed3 Wr W.heap.size (x, y, z) := (hB.block _ hW3s).trans hC3
          obtain ⟨e0, e1, e2⟩ := hbC.cell
          dsimp only at e0 e1 e2
          have hszr : w.heap.size ≤ Wr.heap.size := Nat.le_trans st3.below.size hB.size
          have hlen : (((l.take k).filter fun c => !insB l c)).length ≤ 200000 := Nat.le_trans (List.length_filter_le ..) (by rw [List.length_take]; omega)
          clear hd hnk hl hc hr
          gi_wp2_with (first
            | (gi_at_lookup; refine wpListIn_lookup_set rfl _ _ _ rfl Tryz.underlying157 b (setL l) rfl hset (dx, dy, dz) rfl false hr' ?_)
            | (gi_at_builtin; refine wpListIn_append_one rfl _ _ rfl w.heap.size hszr vS _ rfl hSr (x, y, z) rfl (by omega) ?_; intro v' w4 hown' hgrow hat hform; obtain ⟨g', cap', rfl⟩ := hform; obtain ⟨hv1, hv2, hr2, hk2, hb2⟩ := bS.appended (by decide) hSr hszr (Nat.le_refl _) hown' hgrow; have cv1 := hv1.cell; have fv1 := hv1.frozen))
          obtain ⟨hR4, hap4⟩ := apart_one hRr st3.apart.symm hgrow hat
          have bA4 : Boxed w4 Ab 157 (.map (some b)) := (bA.alloc _).kept hgrow (bA.not_row (by decide) hSr)
          refine ⟨hk2.from _, _, ⟨Nat.le_trans hB.size hk2.size, rfl, missed_snoc pre Hd.out, _, hv2, hr2, World.ownsRow.kept hR4 (grownBy_setCell' w4 w.heap.size _) (.inr (hv1.not_row (by decide) hR4).symm), hap4.symm, bA4.other (by have := st3.hA; omega) _, (st3.below.trans (hB.mono st3.below.size)).trans hb2, ?_, ?_⟩, Frame3.refl _ _⟩
          · obtain ⟨es, clock, q1, q2⟩ := hset
            exact ⟨es, clock, hk2.same _ _ q1 rfl, q2⟩
          · exact (st3.defs.keep fun D hD => hB.block _ (st3.defs.lt hD)).keep fun D hD => by
              have h := (st3.defs.2 D hD).2
              have h' := (hB.block _ (st3.defs.lt hD)).trans h
              rw [h']
              exact hk2.same _ _ h' rfl
      case done =>
        rintro D ys Wr hD rfl ⟨hp, hB⟩ hK
        have hbC : Boxed3 Wr W.heap.size (x, y, z) := (hB.block _ hW3s).trans hC3
        obtain ⟨e0, e1, e2⟩ := hbC.cell
        dsimp only at e0 e1 e2
        have hin : insB l (x, y, z) = true := List.all_eq_true.2 fun d hd => decide_eq_true (hp d hd)
        have hRr := st3.rest.keep hB
        have hSr := st3.shell.keep hB
        have bS : Boxed Wr w.heap.size 22 vS := (hB.block _ st3.box.lt).trans st3.box
        have bA : Boxed Wr Ab 157 (.map (some b)) := (hB.block _ st3.all.lt).trans st3.all
        have hszr : w.heap.size ≤ Wr.heap.size := Nat.le_trans st3.below.size hB.size
        have hlen : ((l.take k).filter (insB l)).length ≤ 200000 := Nat.le_trans (List.length_filter_le ..) (by rw [List.length_take]; omega)
        have Hc := Lib.hid hc
        clear hc hnk hl hp
        gi_wp2_with (gi_at_builtin; refine wpListIn_append_one rfl _ _ rfl w.heap.size hszr vR _ rfl hRr (x, y, z) rfl (by omega) ?_; intro v' w4 hown' hgrow hat hform; obtain ⟨g', cap', rfl⟩ := hform)
        have hft : (l.take (k + 1)).filter (insB l) = (l.take k).filter (insB l) ++ [(x, y, z)] := by
          rw [List.take_add_one, Hc.out]
          simp [List.filter_append, hin]
        have hfs : ((l.take (k + 1)).filter fun c => !insB l c) = (l.take k).filter fun c => !insB l c := by
          rw [List.take_add_one, Hc.out]
          simp [List.filter_append, hin]
        obtain ⟨hS4, hap4⟩ := apart_one hSr st3.apart hgrow hat
        have bS4 := (bS.alloc (.cells #[.int .i64 x, .int .i64 y, .int .i64 z] 24)).kept hgrow (bS.not_row (by decide) hRr)
        have bA4 := (bA.alloc (.cells #[.int .i64 x, .int .i64 y, .int .i64 z] 24)).kept hgrow (bA.not_row (by decide) hRr)
        have hrow : ∀ (j : Nat) (o : Obj), vR.ownBlock = some j → (Wr.alloc (.cells #[.int .i64 x, .int .i64 y, .int .i64 z] 24)).heap[j]? = some o → o.isCells = true := fun j o ej hj => by
          rcases (hRr.alloc (.cells #[.int .i64 x, .int .i64 y, .int .i64 z] 24)).2 with ⟨h, _⟩ | ⟨g, cap, cur, h, _, hgb, _⟩
          · rw [h] at ej; simp [Value.ownBlock] at ej
          · rw [h] at ej
            obtain rfl : g = j := by simpa [Value.ownBlock] using ej
            rw [hgb] at hj; cases hj; rfl
        have hkeep := (KeepsOthers.alloc Wr (.cells #[.int .i64 x, .int .i64 y, .int .i64 z] 24)).trans (KeepsOthers.of_grownBy hgrow hrow)
        have hBw := st3.below.trans (hB.mono st3.below.size)
        have hB4 : Below w.heap.size w w4 := (hBw.alloc hBw.size _).grown hgrow (by simp; omega) fun j ej => by
          rcases hRr.2 with ⟨h, _⟩ | ⟨g, cap, cur, h, hb, _, _⟩
          · rw [h] at ej; simp [Value.ownBlock] at ej
          · rw [h] at ej
            obtain rfl : g = j := by simpa [Value.ownBlock] using ej
            exact hb
        have hset := st3.set.below hB st3.set.lt
        have hset4 : CSet w4 b (setL l) := by
          obtain ⟨es, clock, q1, q2⟩ := hset
          exact ⟨es, clock, hkeep.same _ _ q1 rfl, q2⟩
        have hdefs4 : Defs w4 w.heap.size (D :: Ds) := by
          refine ⟨List.nodup_cons.2 ⟨fun h => ?_, st3.defs.1⟩, fun E hE => ?_⟩
          · have := st3.defs.lt h
            omega
          · rcases List.mem_cons.1 hE with rfl | hE
            · exact ⟨by have := st3.below.size; omega, hkeep.same _ _ hK rfl⟩
            · have h := (st3.defs.2 E hE)
              exact ⟨h.1, hkeep.same _ _ ((hB.block _ (st3.defs.lt hE)).trans h.2) rfl⟩
        exact ⟨⟨k + 1, hkn, _, vS, D :: Ds, ⟨⟨rfl, by simp⟩, rfl⟩, ⟨bS4, by rw [hfs]; exact hS4, by rw [hft]; exact hown', hap4, bA4, hset4, st3.hb, st3.hA, hdefs4, hB4⟩⟩, by simp [intOf]; omega⟩
      case stop =>
        rintro D c pre Wr hD hpre ⟨W', ⟨hsz', rfl, hex, vS', g1, g2, g3, g4, g5, g6, g7, g8⟩, hF⟩ hK
        have hin := missed_ins hpre hex
        have Hc := Lib.hid hc
        clear hpre hnk hl hc
        gi_wp2
        have hft : (l.take (k + 1)).filter (insB l) = (l.take k).filter (insB l) := by
          rw [List.take_add_one, Hc.out]
          simp [List.filter_append, hin]
        have hfs : ((l.take (k + 1)).filter fun c => !insB l c) = ((l.take k).filter fun c => !insB l c) ++ [(x, y, z)] := by
          rw [List.take_add_one, Hc.out]
          simp [List.filter_append, hin]
        have st4 : PeelS w Ab b l (k + 1) vR vS' (D :: Ds) Wr := by
          refine ⟨hF.cells _ _ g1 rfl, by rw [hfs]; exact g2.frame3 hF, by rw [hft]; exact g3.frame3 hF, g4, hF.cells _ _ g5 rfl, CMap.keep g7 (hF.below _ st3.set.lt), st3.hb, st3.hA, ⟨List.nodup_cons.2 ⟨fun h => ?_, st3.defs.1⟩, fun E hE => ?_⟩, g6.trans ⟨hF.os, hF.tape, hF.output, hF.size, fun k hk => hF.below k (Nat.lt_of_lt_of_le hk st3.below.size)⟩⟩
          · have := st3.defs.lt h
            omega
          · rcases List.mem_cons.1 hE with rfl | hE
            · exact ⟨by have := st3.below.size; omega, hK⟩
            · exact ⟨(g8.2 E hE).1, (hF.below E (st3.defs.lt hE)).trans (g8.2 E hE).2⟩
        exact ⟨⟨k + 1, vR, vS', D :: Ds, _, _, _, _, _, _, _, _, _, _, _, _, _, _, _, _, _, _, _, _, _, _, _, _, hkn, rfl, st4⟩, by simp [intOf]; omega⟩
    · have cS := st.box.cell
      have fS := st.box.frozen
      have hsh := st.shell
      have hre := st.rest
      rw [List.take_length] at hsh hre
      have hbox := st.box
      have hdefs := st.defs
      have hbel := st.below
      clear st
      obtain ⟨As, cs, rfl⟩ := hsh.sl.form
      gi_wp2
      have hbox' := hbox.set (.slice As ((l.filter fun c => !insB l c)).length cs)
      have hsh' := World.ownsRow.kept hsh (grownBy_setCell' W w.heap.size (.slice As ((l.filter fun c => !insB l c)).length cs)) (.inr (hbox.not_row (by decide) hsh).symm)
      have hre' := World.ownsRow.kept hre (grownBy_setCell' W w.heap.size (.slice As ((l.filter fun c => !insB l c)).length cs)) (.inr (hbox.not_row (by decide) hre).symm)
      have hdefs' : Defs (W.setCell ⟨w.heap.size, 0, none⟩ (.slice As ((l.filter fun c => !insB l c)).length cs)) w.heap.size Ds := hdefs.keep fun D hD => heap_setCell_other W ⟨w.heap.size, 0, none⟩ D _ fun e => by
        have h := (hdefs.2 D hD).2
        dsimp only at e
        rw [e, show W.heap[w.heap.size]? = _ from hbox] at h
        cases h
      have hbel' := hbel.setCell (p := ⟨w.heap.size, 0, none⟩) (Nat.le_refl _) (.slice As ((l.filter fun c => !insB l c)).length cs)
      clear cS fS hbox hdefs hbel hsh hre
      generalize W.setCell ⟨w.heap.size, 0, none⟩ (.slice As ((l.filter fun c => !insB l c)).length cs) = Wf at hbox' hsh' hre' hdefs' hbel' ⊢
      refine leaves_all (B := w.heap.size) Ds _ hdefs' fun W' hW' => ?_
      have hb2 : Boxed W' w.heap.size 22 (.slice As ((l.filter fun c => !insB l c)).length cs) := hW'.cells _ _ hbox' rfl
      have c2 := hb2.cell
      refine ⟨.tuple #[.slice As ((l.filter fun c => !insB l c)).length cs, vR], by rw [results_cell_tmp rfl]; go_simp, _, _, rfl, Own.spent hsh' hW', Own.spent hre' hW', hbel'.trans ⟨hW'.os, hW'.tape, hW'.output, Nat.le_of_eq hW'.size.symm, hW'.below⟩⟩
end Go.Proofs
