import Derived.Test.YtfdhppdkgfioaaaGreatDoorKeep1
import Derived.Test.YtfdhppdkgfioaaaGreatDoorSetOf
import Derived.Test.YtfdhppdkgfioaaaGreatDoorPrtC
import Derived.Test.YtfdhppdkgfioaaaGreatDoorPeel
/- take and part: the cells to which one comes, taken out of those that are left. -/
namespace Go.Proofs
open Go.RowKit Go.Shelf
set_option maxHeartbeats 16000000
set_option maxRecDepth 1000000
attribute [local go_sem] Oper.semAt_some
theorem Keep1.at_ {b : Nat} {W W' : World} {S : List Cel} (hs : CSet W b S) (hk : Keep1 W.heap.size b W W') {k : Nat} {o : Obj} (h : W.heap[k]? = some o) (ho : ∀ es cl, o ≠ .map es cl) : W'.heap[k]? = some o := by
  obtain ⟨es, clock, q, _⟩ := hs
  refine (hk.block k (Array.getElem?_eq_some_iff.1 h).1 fun e => ?_).trans h
  subst e
  rw [h] at q
  exact ho _ _ (Option.some.inj q)
theorem Boxed.keep1 {b : Nat} {W W' : World} {S : List Cel} (hs : CSet W b S) (hk : Keep1 W.heap.size b W W') {k : Nat} {t : TypeId} {v : Value} (h : Boxed W k t v) : Boxed W' k t v :=
  Keep1.at_ hs hk h (fun _ _ e => by cases e)
theorem Own.keep1 {b : Nat} {W W' : World} {S : List Cel} (hs : CSet W b S) (hk : Keep1 W.heap.size b W W') {B : Nat} {v : Value} {l : List Cel} (h : Own W B v l) : Own W' B v l :=
  ⟨h.1, h.2.imp id fun ⟨g, cap, cur, h1, h2, hg, r⟩ => ⟨g, cap, cur, h1, h2, Keep1.at_ hs hk hg (fun _ _ e => by cases e), r⟩⟩
theorem Keep1.from_ {B b : Nat} {W W' : World} (hk : Keep1 W.heap.size b W W') (hb : b < B) : KeepsFrom B W W' :=
  ⟨hk.size, fun k o hB hg _ => (hk.block k (Array.getElem?_eq_some_iff.1 hg).1 (by omega)).trans hg⟩
theorem pre_of {α : Type} {pre l : List α} {d : α} (h : pre ++ [d] <+: l) : pre <+: l := (List.prefix_append pre [d]).trans h
theorem nodup_snoc {α : Type} {p : List α} {d : α} (h : p.Nodup) (hd : d ∉ p) : (p ++ [d]).Nodup := by
  rw [List.nodup_append]
  exact ⟨h, by simp, fun a ha b hb => by
    obtain rfl : b = d := by simpa using hb
    exact fun e => hd (e ▸ ha)⟩
theorem take_ok (c : Cel) (b Lb : Nat) (L : List Cel) (w : World) (hL : Boxed w Lb 157 (.map (some b))) (hs : CSet w b L) (hnd : L.Nodup) :
    Calls Tryz.prog 111 #[cellV c, .pointer (some ⟨Lb, 0, none⟩)] w fun e w' => e = .returned (.bool (decide (c ∈ L))) ∧ (∃ L', CSet w' b L' ∧ L'.Nodup ∧ ∀ d, d ∈ L' ↔ d ∈ L ∧ d ≠ c) ∧ Keep1 w.heap.size b w w' := by
  obtain ⟨x, y, z⟩ := c
  unfold cellV
  dsimp only
  have hBW : Below w.heap.size w (w.alloc (.cells #[.int .i64 x, .int .i64 y, .int .i64 z] 24)) := (Below.refl _ _).alloc (Nat.le_refl _) _
  have hL' : Boxed (w.alloc (.cells #[.int .i64 x, .int .i64 y, .int .i64 z] 24)) Lb 157 (.map (some b)) := (hBW.block _ hL.lt).trans hL
  have hs' := hs.below hBW hs.lt
  have cL := hL'.cell
  generalize hzb : decide ((x, y, z) ∈ L) = zb
  clear hL hs hL'
  go_enter Tryz.func111, Tryz.ntmps111
  go_wp2_with (first
    | (at_lookup; refine wpList_lookup_set rfl _ _ _ rfl Tryz.underlying157 b L rfl hs' (x, y, z) rfl zb hzb ?_)
    | (at_delete; refine wpList_delete_set rfl _ _ rfl b L rfl hs' hnd (x, y, z) rfl ?_; intro w4 L2 hs4 hnd4 hm4 hg4))
  go_ret
  exact ⟨rfl, ⟨L2, hs4, hnd4, hm4⟩, (Keep1.of_below hBW).trans (Keep1.of_grown hg4 hBW.size fun k e => by cases e; exact .inl rfl)⟩
/-- The state of the search: w the world at the call. -/
structure PartS (w : World) (b Tx Lx Lb : Nat) (L : List Cel) (c : Cel) (i : Nat) (G : Prop) (dn : Cel → Prop) (v : Value) (p L' : List Cel) (Ds : List Nat) (W : World) : Prop where
  tk : Boxed W Tx 161 (.func (.func 111) #[] #[.pointer (some ⟨Lb, 0, none⟩)])
  left : Boxed W Lb 157 (.map (some b))
  box : Boxed W Lx 22 v
  own : Own W w.heap.size v p
  set : CSet W b L'
  nd : L'.Nodup
  mem : ∀ d, d ∈ L' ↔ d ∈ L ∧ d ∉ p
  pn : p.Nodup
  ps : ∀ d ∈ p, d ∈ L
  pi : G → PartI NearR (· ∈ L) c p i dn
  hLx : w.heap.size ≤ Lx
  defs : Defs W w.heap.size Ds
  keep : Keep1 w.heap.size b w W
theorem PartS.step {w : World} {b Tx Lx Lb : Nat} {L : List Cel} {c : Cel} {i : Nat} {G : Prop} {dn : Cel → Prop} {v : Value} {p L' : List Cel} {Ds : List Nat} {W W' : World} (h : PartS w b Tx Lx Lb L c i G dn v p L' Ds W) (B : Nat) (hos : W'.os = W.os) (htape : W'.tape = W.tape) (hout : W'.output = W.output) (hsize : W.heap.size ≤ W'.heap.size)
    (hk : ∀ (k : Nat) (o : Obj), W.heap[k]? = some o → (o.isCells = true ∨ k < B) → W'.heap[k]? = some o) (hb : b < B) (hD : ∀ D ∈ Ds, D < B) (hB : w.heap.size ≤ B) : PartS w b Tx Lx Lb L c i G dn v p L' Ds W' := by
  refine ⟨hk _ _ h.tk (.inl rfl), hk _ _ h.left (.inl rfl), hk _ _ h.box (.inl rfl), ⟨h.own.1, h.own.2.imp id fun ⟨g, cap, cur, h1, h2, hg, r⟩ => ⟨g, cap, cur, h1, h2, hk g _ hg (.inl rfl), r⟩⟩, ?_, h.nd, h.mem, h.pn, h.ps, h.pi, h.hLx, ⟨h.defs.1, fun D hDm => ⟨(h.defs.2 D hDm).1, hk _ _ (h.defs.2 D hDm).2 (.inr (hD D hDm))⟩⟩, h.keep.trans ⟨hos, htape, hout, hsize, fun k h1 h2 => ?_⟩⟩
  · obtain ⟨es, clock, q1, q2⟩ := h.set
    exact ⟨es, clock, hk _ _ q1 (.inr hb), q2⟩
  · obtain ⟨o, ho⟩ : ∃ o, W.heap[k]? = some o := ⟨_, Array.getElem?_eq_getElem (Nat.lt_of_lt_of_le h1 h.keep.size)⟩
    rw [ho]
    exact hk _ _ ho (.inr (by omega))
theorem PartS.turn {w : World} {b Tx Lx Lb : Nat} {L : List Cel} {c : Cel} {i : Nat} {G : Prop} {dn : Cel → Prop} {v : Value} {p L' : List Cel} {Ds : List Nat} {W W' : World} {row : Option Nat} (h : PartS w b Tx Lx Lb L c i G dn v p L' Ds W) (B : Nat) (hg : W.grownBy W' row) (hr : ∀ r, row = some r → B ≤ r ∧ ∃ o : Obj, W.heap[r]? = some o ∧ o.isCells = false) (hb : b < B) (hD : ∀ D ∈ Ds, D < B) (hB : w.heap.size ≤ B) : PartS w b Tx Lx Lb L c i G dn v p L' Ds W' :=
  h.step B hg.os hg.tape hg.output hg.size (fun k o hk ho => (hg.block k (Array.getElem?_eq_some_iff.1 hk).1 fun e => by
    obtain ⟨h1, o', h2, h3⟩ := hr k e.symm
    rcases ho with ho | ho
    · rw [hk] at h2
      cases h2
      rw [ho] at h3
      cases h3
    · omega).trans hk) hb hD hB
theorem PartS.below {w : World} {b Tx Lx Lb : Nat} {L : List Cel} {c : Cel} {i : Nat} {G : Prop} {dn : Cel → Prop} {v : Value} {p L' : List Cel} {Ds : List Nat} {W W' : World} (h : PartS w b Tx Lx Lb L c i G dn v p L' Ds W) (hg : Below W.heap.size W W') : PartS w b Tx Lx Lb L c i G dn v p L' Ds W' :=
  h.step W.heap.size hg.os hg.tape hg.output hg.size (fun k _ hk _ => (hg.block k (Array.getElem?_eq_some_iff.1 hk).1).trans hk) h.set.lt (fun _ hD => h.defs.lt hD) h.keep.size
theorem part_ok (c : Cel) (b Lb : Nat) (L : List Cel) (w : World) (hL : Boxed w Lb 157 (.map (some b))) (hs : CSet w b L) (hnd : L.Nodup) (hn : L.length ≤ 4096) (hnear : ∀ d ∈ L, Near d 2000) :
    Calls Tryz.prog 112 #[cellV c, .func (.func 51) #[] #[], .func (.func 111) #[] #[.pointer (some ⟨Lb, 0, none⟩)]] w fun e w' => ∃ v p L', e = .returned v ∧ Own w' w.heap.size v p ∧ CSet w' b L' ∧ L'.Nodup ∧ (∀ d, d ∈ L' ↔ d ∈ L ∧ d ∉ p) ∧ ((c ∉ L ∧ p = []) ∨ (c ∈ L ∧ ∃ i dn, PartI NearR (· ∈ L) c p i dn ∧ p.length ≤ i)) ∧ Keep1 w.heap.size b w w' := by
  obtain ⟨x, y, z⟩ := c
  obtain ⟨W0, hW0⟩ : ∃ W, W = (w.alloc (.cells #[.int .i64 x, .int .i64 y, .int .i64 z] 24)).alloc (.cells #[.func (.func 111) #[] #[.pointer (some ⟨Lb, 0, none⟩)]] 161) := ⟨_, rfl⟩
  have hB0 : Below w.heap.size w W0 := by subst hW0; exact ((Below.refl _ _).alloc (Nat.le_refl _) _).alloc (by simp) _
  have hT0 : Boxed W0 (w.heap.size + 1) 161 (.func (.func 111) #[] #[.pointer (some ⟨Lb, 0, none⟩)]) := by
    subst hW0
    have h := World.alloc_heap_new (w.alloc (.cells #[.int .i64 x, .int .i64 y, .int .i64 z] 24)) (.cells #[.func (.func 111) #[] #[.pointer (some ⟨Lb, 0, none⟩)]] 161)
    rw [World.size_alloc] at h
    exact h
  have hC0 : Boxed3 W0 w.heap.size (x, y, z) := by subst hW0; exact (Below.heap_alloc _ _ _ (by simp)).trans (World.alloc_heap_new w _)
  have hL0 : Boxed W0 Lb 157 (.map (some b)) := (hB0.block _ hL.lt).trans hL
  have hs0 := hs.below hB0 hs.lt
  have hbw : b < w.heap.size := hs.lt
  have q := take_ok (x, y, z) b Lb L W0 hL0 hs0 hnd
  have hsz0 : W0.heap.size = w.heap.size + 2 := by subst hW0; simp
  clear hL hs
  unfold cellV at q
  dsimp only at q
  obtain ⟨zb, hzb⟩ : ∃ zb, decide ((x, y, z) ∈ L) = zb := ⟨_, rfl⟩
  rw [hzb] at q
  have HZ := Lib.hid hzb
  clear hzb
  unfold cellV
  dsimp only
  refine (callsIn_wide (n := 3)).1 ?_
  refine callsIn_of_wp_marks Tryz.func112 rfl trivial ?_ rfl
  simp only [Tryz.ntmps112, List.size_toArray, List.length_cons, List.length_nil, Nat.reduceAdd, Nat.reduceSub, Array.replicate_succ, Array.replicate_zero, List.push_toArray, List.append_toArray, List.nil_append, List.cons_append]
  gi_wp2
  rw [← hW0]
  clear hW0
  refine ⟨trivial, (callsIn_wide.2 q).mono ?_⟩
  rintro e w1 ⟨rfl, ⟨L1, hs1, hnd1, hmem1⟩, hk1⟩
  have hK1 : Keep1 w.heap.size b w w1 := (Keep1.of_below hB0).trans (hk1.mono hB0.size)
  have hT1 := Boxed.keep1 hs0 hk1 hT0
  have hL1 := Boxed.keep1 hs0 hk1 hL0
  have hC1 : Boxed3 w1 w.heap.size (x, y, z) := Keep1.at_ hs0 hk1 hC0 (fun _ _ e => by cases e)
  have hsz1 : w.heap.size + 2 ≤ w1.heap.size := by have := hk1.size; omega
  obtain ⟨c0, c1, c2⟩ := hC1.cell
  dsimp only at c0 c1 c2
  clear q hk1 hT0 hL0 hC0 hs0 hB0
  cases zb with
  | false =>
    gi_wp2
    exact ⟨_, results_tmp rfl _ _ _, _, [], L1, rfl, Own.nil _ _, hs1, hnd1, fun d => by
      rw [hmem1]
      constructor
      · exact fun h => ⟨h.1, by simp⟩
      · exact fun h => ⟨h.1, fun e => of_decide_eq_false HZ.out (e ▸ h.1)⟩, .inl ⟨of_decide_eq_false HZ.out, rfl⟩, hK1⟩
  | true =>
    have hc : (x, y, z) ∈ L := of_decide_eq_true HZ.out
    have Hc := Lib.hid hc
    clear HZ
    gi_wp2
    have hO0 : Own (w1.alloc (.cells #[.int .i64 x, .int .i64 y, .int .i64 z] 24)) w.heap.size (.slice (some ⟨w1.heap.size, 0, none⟩) 1 1) [(x, y, z)] := World.ownsRow_lit w1 _ 1 (by omega) (by unfold maxLen; omega) rfl
    have hO1 : Own ((w1.alloc (.cells #[.int .i64 x, .int .i64 y, .int .i64 z] 24)).alloc (.cells #[.slice (some ⟨w1.heap.size, 0, none⟩) 1 1] 22)) w.heap.size (.slice (some ⟨w1.heap.size, 0, none⟩) 1 1) [(x, y, z)] :=
      Own.alloc (w := w1.alloc (.cells #[.int .i64 x, .int .i64 y, .int .i64 z] 24)) hO0 _
    have hX2 : Below w1.heap.size w1 ((w1.alloc (.cells #[.int .i64 x, .int .i64 y, .int .i64 z] 24)).alloc (.cells #[.slice (some ⟨w1.heap.size, 0, none⟩) 1 1] 22)) := ((Below.refl _ _).alloc (Nat.le_refl _) _).alloc (by simp) _
    have hBx2 : Boxed ((w1.alloc (.cells #[.int .i64 x, .int .i64 y, .int .i64 z] 24)).alloc (.cells #[.slice (some ⟨w1.heap.size, 0, none⟩) 1 1] 22)) (w1.heap.size + 1) 22 (.slice (some ⟨w1.heap.size, 0, none⟩) 1 1) := by
      have h := World.alloc_heap_new (w1.alloc (.cells #[.int .i64 x, .int .i64 y, .int .i64 z] 24)) (.cells #[.slice (some ⟨w1.heap.size, 0, none⟩) 1 1] 22)
      rw [World.size_alloc] at h
      exact h
    have hLbw : Lb < w1.heap.size := hL1.lt
    generalize hLx : w1.heap.size + 1 = Lx at hBx2 ⊢
    generalize (w1.alloc (.cells #[.int .i64 x, .int .i64 y, .int .i64 z] 24)).alloc (.cells #[.slice (some ⟨w1.heap.size, 0, none⟩) 1 1] 22) = W1 at hO1 hX2 hBx2 ⊢
    have st0 : PartS w b (w.heap.size + 1) Lx Lb L (x, y, z) 0 True (fun _ => False) (.slice (some ⟨w1.heap.size, 0, none⟩) 1 1) [(x, y, z)] L1 [] W1 :=
      ⟨(hX2.block _ hT1.lt).trans hT1, (hX2.block _ hL1.lt).trans hL1, hBx2, hO1, hs1.below hX2 hs1.lt, hnd1, fun d => by rw [hmem1]; simp, by simp, fun d hd => by rw [List.mem_singleton.1 hd]; exact hc, fun _ => PartI.start hc, by omega, Defs.nil _ _, hK1.trans (Keep1.of_below (hX2.mono (by omega)))⟩
    have hTL : w.heap.size + 1 ≠ Lx := by omega
    have hLL : Lb ≠ Lx := by omega
    clear hO0 hO1 hX2 hBx2 hs1 hnd1 hmem1 hK1 hT1 hL1 hC1 c0 c1 c2 hc
    refine wpIn_loop (fun a W => ∃ (i : Nat) (v : Value) (p L' : List Cel) (Ds : List Nat) (u0 u2 u3 u4 u9 u10 u11 u12 u13 u14 u15 u16 u17 u18 u19 u20 u21 u22 u23 u24 u25 u26 u27 u28 u29 u30 u31 u32 u33 u34 u35 u36 : Value), i ≤ p.length ∧ a = { tmps := #[u0, .func (.func 51) #[] #[], u2, u3, u4, .pointer (some ⟨w.heap.size + 1, 0, none⟩), .slice none 0 0, .pointer (some ⟨Lx, 0, none⟩), .int .i64 i, u9, u10, u11, u12, u13, u14, u15, u16, u17, u18, u19, u20, u21, u22, u23, u24, u25, u26, u27, u28, u29, u30, u31, u32, u33, u34, u35, u36], defers := Ds.map coll } ∧ PartS w b (w.heap.size + 1) Lx Lb L (x, y, z) i True (fun _ => False) v p L' Ds W) (fun a _ => L.length - (intOf (a.tmps.getD 8 undef)).toNat) ?start ?round
    case start => exact ⟨0, _, _, _, [], _, _, _, _, _, _, _, _, _, _, _, _, _, _, _, _, _, _, _, _, _, _, _, _, _, _, _, _, _, _, _, _, Nat.zero_le _, rfl, st0⟩
    case round =>
      clear st0 hLx hsz1 hLbw
      rintro a W ⟨i, v, p, L', Ds, u0, u2, u3, u4, u9, u10, u11, u12, u13, u14, u15, u16, u17, u18, u19, u20, u21, u22, u23, u24, u25, u26, u27, u28, u29, u30, u31, u32, u33, u34, u35, u36, hi, rfl, st⟩
      have hro : Fence.wide.round = none := rfl
      have h1 : 1 ≤ 3 := by omega
      have hpL := nodup_len st.pn st.ps
      have hform := st.own.sl.form
      obtain ⟨A, cap, rfl⟩ := hform
      rcases Nat.lt_or_eq_of_le hi with hlt | rfl
      · have hi0 : (0 : Int) ≤ i := by omega
        have hi1 : (i : Int) < p.length := by omega
        have wi := wrapS (n := (i : Int) + 1) (by omega)
        obtain ⟨be, oe, x', y', z', rfl, -, hbe, hce, r0, r1, r2⟩ := st.own.sl.cells hlt
        have hnk : Near (x', y', z') 2000 := hnear _ (st.ps _ (List.mem_of_getElem? hce))
        have cB := st.box.cell
        have q := neighbours_ok (x', y', z') W
        have hszW : w.heap.size ≤ W.heap.size := st.keep.size
        have hLxW : Lx < W.heap.size := st.box.lt
        unfold cellV at q
        dsimp only at q
        gi_wp2
        refine ⟨trivial, (callsIn_wide.2 q).mono ?_⟩
        rintro e W3 ⟨rfl, hW3⟩
        have hN3 : W3.heap[W.heap.size]? = some (.cells (boxC (x', y', z')) 24 (0, 0)) := by rw [hW3]; exact World.alloc_heap_new W _
        have hX3 : Below W.heap.size W W3 := by rw [hW3]; exact (Below.refl _ _).alloc (Nat.le_refl _) _
        have hs3 : W3.heap.size = W.heap.size + 1 := by rw [hW3]; simp
        have st3 := st.below hX3
        have hnotB : (Value.slice (some ⟨be, oe, none⟩) p.length cap).ownBlock ≠ some W.heap.size := fun e => by
          have := (st.own.lt _ e).2
          omega
        clear q hW3 hX3 st r0 r1 r2 cB
        gi_wp2
        have hBn : W.heap.size < W3.heap.size := by omega
        clear hs3
        refine wpIn_rangeFunc_ownH hro h1 (gf := 114) (lb := #[.pointer (some ⟨W.heap.size, 0, none⟩)]) rfl trivial enters_nb
          (neighbours_stopsK Fence.wide 2 trivial rfl (by omega) W.heap.size (x', y', z') hnk (fun X Y => Y.heap[W.heap.size]? = X.heap[W.heap.size]?) (fun _ _ h => h) W3 hBn hN3) (fun h1 h2 => h2.trans h1) (fun X ll _ _ hll _ _ _ => putObj_other X ll _ _ (by omega)) (Below.refl _ _) (fun _ => rfl)
          (fun pre Wr => (∃ v' p' L'', PartS w b (w.heap.size + 1) Lx Lb L (x, y, z) i (pre <+: nearL (x', y', z')) (fun d => d ∈ pre) v' p' L'' Ds Wr ∧ v'.ownBlock ≠ some W.heap.size ∧ p'[i]? = some (x', y', z')) ∧ W3.heap.size ≤ Wr.heap.size)
          (fun _ _ _ => False)
          (fun pre X Y row hs hg hr => by
            obtain ⟨⟨v', p', L'', m1, m2, m4⟩, m3⟩ := hs
            exact ⟨⟨v', p', L'', m1.turn W3.heap.size hg hr (by omega) (fun _ hD => st3.defs.lt hD) (by omega), m2, m4⟩, Nat.le_trans m3 hg.size⟩)
          (fun _ _ _ _ _ hs _ _ => hs)
          ⟨⟨_, p, L', { st3 with pi := fun _ => { st3.pi trivial with cur := fun y _ d hd => by simp at hd } }, hnotB, hce⟩, Nat.le_refl _⟩
          (fun d a' Wr => ∃ Bx, W3.heap.size ≤ Bx ∧ Boxed3 Wr Bx d ∧ a' = { tmps := #[u0, .func (.func 51) #[] #[], u2, u3, u4, .pointer (some ⟨w.heap.size + 1, 0, none⟩), .slice none 0 0, .pointer (some ⟨Lx, 0, none⟩), .int .i64 i, .pointer (some ⟨Bx, 0, none⟩), u10, u11, u12, u13, u14, u15, .int .i64 i, .slice (some ⟨be, oe, none⟩) p.length cap, .int .i64 p.length, .bool true, u20, u21, .func (.func 51) #[] #[], .slice (some ⟨be, oe, none⟩) p.length cap, .int .i64 i, .pointer (some ⟨be, oe + i * 3, none⟩), cellV (x', y', z'), .func (.func 114) #[] #[.pointer (some ⟨W.heap.size, 0, none⟩)], cellV d, u29, u30, u31, u32, u33, u34, u35, u36], defers := [] })
          (fun d a' _ X Y row hs hg hr => by obtain ⟨Bx, g1, g2, g3⟩ := hs; exact ⟨Bx, g1, Boxed3.own Bx (fun (_ : Unit) => d) () X Y row g2 hg (fun r e => (hr r e).2), g3⟩)
          ?assign ?body ?done ?stop
        case assign =>
          rintro ll pre ⟨dx, dy, dz⟩ Wr K ⟨⟨v', p', L'', m1, m2, m4⟩, m3⟩ hK
          unfold cellV at hK ⊢
          dsimp only at hK ⊢
          gi_wp2
          exact hK _ _ ((KeepsOthers.alloc _ _).from _) ((below_alloc Wr _).block _ (by omega)) ⟨⟨v', p', L'', m1.below (below_alloc Wr _), m2, m4⟩, Nat.le_trans m3 (by simp)⟩ ⟨Wr.heap.size, m3, World.alloc_heap_new Wr _, rfl⟩
        case body =>
          rintro ll pre ⟨dx, dy, dz⟩ a' Wr hl' ⟨r, hr⟩ ⟨⟨v', p', L'', m1, m2, m4⟩, m3⟩ ⟨Bx, hBx, bx, rfl⟩ hlt2
          obtain ⟨zb, hzb⟩ : ∃ zb, decide ((dx, dy, dz) ∈ L'') = zb := ⟨_, rfl⟩
          have q := take_ok (dx, dy, dz) b Lb L'' Wr m1.left m1.set m1.nd
          rw [hzb] at q
          unfold cellV at q
          dsimp only at q
          have HZ := Lib.hid hzb
          have cT := m1.tk.cell
          obtain ⟨c0, c1, c2⟩ := bx.cell
          dsimp only at c0 c1 c2
          have hpl : p'.length ≤ 4096 := Nat.le_trans (nodup_len m1.pn m1.ps) hn
          have hbB : b < W3.heap.size := by omega
          clear hzb hr hnk hce
          gi_wp2
          refine ⟨trivial, (CallsIn.inRound ll (callsIn_wide.2 q)).mono ?_⟩
          rintro e w4 ⟨rfl, ⟨L3, hs3', hnd3, hmem3⟩, hk4⟩
          have hT4 := Boxed.keep1 m1.set hk4 m1.tk
          have hL4 := Boxed.keep1 m1.set hk4 m1.left
          have hB4 := Boxed.keep1 m1.set hk4 m1.box
          have hown4 := Own.keep1 m1.set hk4 m1.own
          have bx4 : Boxed3 w4 Bx (dx, dy, dz) := Keep1.at_ m1.set hk4 bx (fun _ _ e => by cases e)
          have hdef4 : ∀ D ∈ Ds, w.heap.size ≤ D ∧ w4.heap[D]? = some (.deferred (some [])) := fun D hD => ⟨(m1.defs.2 D hD).1, Keep1.at_ m1.set hk4 (m1.defs.2 D hD).2 (fun _ _ e => by cases e)⟩
          have hkW : w4.heap[W.heap.size]? = Wr.heap[W.heap.size]? := hk4.block _ (by omega) (by omega)
          have hszr : w.heap.size ≤ Wr.heap.size := m1.keep.size
          have hsz4 : w.heap.size ≤ w4.heap.size := Nat.le_trans hszr hk4.size
          have hK4 : Keep1 w.heap.size b w w4 := m1.keep.trans (hk4.mono hszr)
          obtain ⟨e0, e1, e2⟩ := bx4.cell
          dsimp only at e0 e1 e2
          have cB := hB4.cell
          clear q cT c0 c1 c2
          cases zb with
          | false =>
            gi_wp2
            refine ⟨hk4.from_ hbB, hkW, ⟨v', p', L3, ⟨hT4, hL4, hB4, hown4, hs3', hnd3, fun d => ?_, m1.pn, m1.ps, fun hg => (m1.pi (pre_of hg)).skip (d := (dx, dy, dz)) m4 (fun hd _ => ?_) (fun e he => ?_), m1.hLx, ⟨m1.defs.1, hdef4⟩, hK4⟩, m2, m4⟩, Nat.le_trans m3 hk4.size⟩
            · rw [hmem3, m1.mem]
              exact ⟨fun h => h.1, fun h => ⟨h, fun e => of_decide_eq_false HZ.out ((m1.mem _).2 (e ▸ h))⟩⟩
            · apply Decidable.byContradiction
              intro h
              exact of_decide_eq_false HZ.out ((m1.mem _).2 ⟨hd, h⟩)
            · rcases List.mem_append.1 he with h | h
              · exact .inl h
              · exact .inr (by simpa using h)
          | true =>
            have hdL := (m1.mem _).1 (of_decide_eq_true HZ.out)
            have HDL := Lib.hid hdL
            clear hdL
            gi_wp2_with (gi_at_builtin; (refine wpListIn_append_one rfl _ _ rfl w.heap.size hsz4 v' p' rfl hown4 (dx, dy, dz) rfl (by omega) ?_; intro v9 w5 hown' hgrow hat hform; obtain ⟨g', cap', rfl⟩ := hform; obtain ⟨hv1, hv2, hr2, hk2, hb2⟩ := hB4.appended (by decide) hown4 hsz4 m1.hLx hown' hgrow; have cv1 := hv1.cell; have fv1 := hv1.frozen))
            have hT5 := (hT4.alloc (.cells #[.int .i64 dx, .int .i64 dy, .int .i64 dz] 24)).kept hgrow (hT4.not_row (by decide) hown4)
            have hT6 := hT5.other hTL (.slice (some ⟨g', 0, none⟩) (p'.length + 1) cap')
            have hL5 := (hL4.alloc (.cells #[.int .i64 dx, .int .i64 dy, .int .i64 dz] 24)).kept hgrow (hL4.not_row (by decide) hown4)
            have hL6 := hL5.other hLL (.slice (some ⟨g', 0, none⟩) (p'.length + 1) cap')
            have hs4 : Wr.heap.size ≤ w4.heap.size := hk4.size
            have e5 : w5.heap[W.heap.size]? = w4.heap[W.heap.size]? := (hgrow.block _ (by simp; omega) (fun e => m2 e.symm)).trans ((below_alloc w4 _).block _ (by omega))
            have e6 := (heap_setCell_other w5 ⟨Lx, 0, none⟩ W.heap.size (.slice (some ⟨g', 0, none⟩) (p'.length + 1) cap') (by dsimp only; omega)).trans (e5.trans hkW)
            have hset5 : CSet (w5.setCell ⟨Lx, 0, none⟩ (.slice (some ⟨g', 0, none⟩) (p'.length + 1) cap')) b L3 := by
              obtain ⟨es, clock, q1, q2⟩ := hs3'
              exact ⟨es, clock, hk2.same _ _ q1 rfl, q2⟩
            refine ⟨(hk4.from_ hbB).trans (hk2.from _), e6, ⟨.slice (some ⟨g', 0, none⟩) (p'.length + 1) cap', p' ++ [(dx, dy, dz)], ⟨L3, ⟨hT6, hL6, hv2, hr2, hset5, hnd3, fun d => ?_, nodup_snoc m1.pn HDL.out.2, (fun d hd => (List.mem_append.1 hd).elim (m1.ps d) (fun h => by rw [List.mem_singleton.1 h]; exact HDL.out.1)), fun hg => (m1.pi (pre_of hg)).push m4 HDL.out.1 (hg.subset (List.mem_append.2 (.inr (List.mem_singleton.2 rfl)))) HDL.out.2 (fun e he => ?_), m1.hLx, ⟨m1.defs.1, fun D hD => ⟨(hdef4 D hD).1, hk2.same _ _ (hdef4 D hD).2 rfl⟩⟩, hK4.trans (Keep1.of_below hb2)⟩⟩, fun e => ?_, ?_⟩, Nat.le_trans m3 (Nat.le_trans hk4.size hb2.size)⟩
            · rw [hmem3, m1.mem, List.mem_append, List.mem_singleton]
              constructor
              · rintro ⟨⟨h1, h2⟩, h3⟩
                exact ⟨h1, fun h => h.elim h2 h3⟩
              · rintro ⟨h1, h2⟩
                exact ⟨⟨h1, fun h => h2 (.inl h)⟩, fun h => h2 (.inr h)⟩
            · rcases List.mem_append.1 he with h | h
              · exact .inl h
              · exact .inr (by simpa using h)
            · rcases hat with h | h
              · rw [h] at e
                exact m2 e
              · rw [h] at e
                injection e with e
                omega
            · rw [List.getElem?_append_left (List.getElem?_eq_some_iff.1 m4).1]
              exact m4
        case done =>
          rintro D ys Wr hD rfl ⟨⟨v', p', L'', m1, m2, m4⟩, m3⟩ hK
          have st4 : PartS w b (w.heap.size + 1) Lx Lb L (x, y, z) (i + 1) True (fun _ => False) v' p' L'' (D :: Ds) Wr := by
            refine ⟨m1.tk, m1.left, m1.box, m1.own, m1.set, m1.nd, m1.mem, m1.pn, m1.ps, fun _ => (m1.pi ⟨[], by simp⟩).next m4 (fun d _ hr => hr), m1.hLx, ⟨List.nodup_cons.2 ⟨fun h => ?_, m1.defs.1⟩, fun F hF => ?_⟩, m1.keep⟩
            · have := st3.defs.lt h
              omega
            · rcases List.mem_cons.1 hF with rfl | hF
              · exact ⟨by omega, hK⟩
              · exact m1.defs.2 F hF
          have hil : i + 1 ≤ p'.length := (List.getElem?_eq_some_iff.1 m4).1
          have HM := Lib.hid (show L.length - (i + 1) < L.length - i by omega)
          clear hce hnk m1 m4
          gi_wp2
          exact ⟨⟨i + 1, v', p', L'', D :: Ds, _, _, _, _, _, _, _, _, _, _, _, _, _, _, _, _, _, _, _, _, _, _, _, _, _, _, _, _, _, _, _, _, hil, rfl, st4⟩, HM.out⟩
        case stop =>
          rintro D c pre Wr _ _ h _
          exact h.elim
      · have cB := st.box.cell
        have hown := st.own
        have hset := st.set
        have hnd' := st.nd
        have hmem := st.mem
        have hpi := st.pi trivial
        have hdefs := st.defs
        have hkeep := st.keep
        clear st
        gi_wp2
        refine leaves_all (B := w.heap.size) Ds _ hdefs fun W' hW' => ?_
        exact ⟨_, results_tmp rfl _ _ _, _, p, L', rfl, Own.spent hown hW', CMap.keep hset (hW'.below _ hbw), hnd', hmem, .inr ⟨Hc.out, _, _, hpi, Nat.le_refl _⟩, hkeep.trans ⟨hW'.os, hW'.tape, hW'.output, Nat.le_of_eq hW'.size.symm, fun k h _ => hW'.below k h⟩⟩
end Go.Proofs
