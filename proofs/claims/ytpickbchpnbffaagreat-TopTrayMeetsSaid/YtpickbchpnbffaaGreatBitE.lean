/- bite: meet, meetingAt, contacts, Hits, Contacts. -/
import Derived.Test.YtpickbchpnbffaaGreatBitD
namespace Go.Proofs
open Go.RowKit
set_option maxHeartbeats 16000000
set_option maxRecDepth 1000000
theorem two_cellsB {V : World} {B : Nat} {c0 c1 : Value} {T : TypeId} (h : V.heap[B]? = some (.cells #[c0, c1] T (0, 0))) :
    (V.cell? ⟨B, 0, none⟩ = some c0 ∧ V.cell? ⟨B, 1, none⟩ = some c1) ∧ V.frozen? ⟨B, 0, none⟩ = false ∧ V.frozen? ⟨B, 1, none⟩ = false := by
  have zl := fun j => cell_of_row V B j _ _ _ h
  have fz := fun j => frozen_of_row V B j _ _ h
  have z0 := zl 0
  have z1 := zl 1
  simp at z0 z1
  exact ⟨⟨z0, z1⟩, fz 0, fz 1⟩
/-- What a meeting is told as. -/
def MeetE (u l : List Cel) (s : Cel) (w : World) (e : Ending) (w' : World) : Prop := ∃ (A1 A2 : Option Addr) (c1 c2 : Nat), e = .returned (.agg #[.slice A1 (hitB u l s).length c1, .slice A2 (conM u l s).length c2]) ∧ Own w' w.heap.size (.slice A1 (hitB u l s).length c1) (hitB u l s) ∧ Own w' w.heap.size (.slice A2 (conM u l s).length c2) (conM u l s) ∧ Below w.heap.size w w'
theorem bitMeet_ok (u l : List Cel) (vu : Value) (b : Nat) (s : Cel) (w : World) (hu : Sl w vu u) (hs : CSet w b (setL l)) (lu : u.length ≤ 4096) (nu : ∀ c ∈ u, Near c 1000) (hn : Near s 1000) :
    Calls Tryz.prog 70 #[vu, .map (some b), cellV s] w (MeetE u l s w) := by
  obtain ⟨sx, sy, sz⟩ := s
  obtain ⟨U, uc, rfl⟩ := hu.form
  unfold cellV MeetE
  dsimp only
  obtain ⟨W0, hW⟩ : ∃ W0, W0 = ((w.alloc (.cells #[.int .i64 sx, .int .i64 sy, .int .i64 sz] 34)).alloc (.cells #[.slice none 0 0, .slice none 0 0] 61)).alloc (.cells #[.slice none 0 0, .slice none 0 0] 61) := ⟨_, rfl⟩
  have hB0 : Below w.heap.size w W0 := by subst hW; exact (((Below.refl _ _).alloc (Nat.le_refl _) _).alloc (by simp) _).alloc (by simp; omega) _
  have hsz : W0.heap.size = w.heap.size + 1 + 1 + 1 := by subst hW; simp
  have c0 : W0.cell? ⟨w.heap.size, 0, none⟩ = some (.int .i64 sx) := by subst hW; go_simp
  have c1 : W0.cell? ⟨w.heap.size, 1, none⟩ = some (.int .i64 sy) := by subst hW; go_simp
  have c2 : W0.cell? ⟨w.heap.size, 2, none⟩ = some (.int .i64 sz) := by subst hW; go_simp
  have hm0 : W0.heap[w.heap.size + 1 + 1]? = some (.cells #[.slice none 0 0, .slice none 0 0] 61 (0, 0)) := by
    have := heap_alloc_new ((w.alloc (.cells #[.int .i64 sx, .int .i64 sy, .int .i64 sz] 34)).alloc (.cells #[.slice none 0 0, .slice none 0 0] 61)) (.cells #[.slice none 0 0, .slice none 0 0] 61)
    rw [← hW] at this
    simpa using this
  have hr0 : W0.heap[w.heap.size + 1]? = some (.cells #[.slice none 0 0, .slice none 0 0] 61 (0, 0)) := by
    have := heap_alloc_new (w.alloc (.cells #[.int .i64 sx, .int .i64 sy, .int .i64 sz] 34)) (.cells #[.slice none 0 0, .slice none 0 0] 61)
    rw [hW, Below.heap_alloc _ _ _ (by simp)]
    simpa using this
  have kb := bitBack_ok sx sy sz W0 (hn.mono (by omega))
  unfold moverV at kb
  go_enter Tryz.func70, Tryz.ntmps70
  go_wp2_with fail
  rw [← hW]
  clear hW
  refine kb.mono ?_
  rintro e w1 ⟨q, rfl, hq, hqr, hB1⟩
  have hs1 := hB1.size
  have hm1 := (hB1.block _ (by omega)).trans hm0
  have hr1 := (hB1.block _ (by omega)).trans hr0
  have hql : q < w1.heap.size := (Array.getElem?_eq_some_iff.1 hqr).1
  have hX1 : Below w.heap.size w w1 := hB0.trans (hB1.mono hB0.size)
  have hset1 : CSet w1 b (setL l) := hs.below hX1 hs.lt
  have hbl := hs.lt
  have st0 : MeetS w1 (w.heap.size + 1 + 1) 61 (.slice none 0 0) (.slice none 0 0) (hitB (u.take 0) l (sx, sy, sz)) (conB (u.take 0) l (sx, sy, sz)) w1 :=
    ⟨hm1, Own.nil _ _, Own.nil _ _, fun g e => (by cases e), Keep1.refl _ _ _⟩
  have hkeep : ∀ W, Keep1 w1.heap.size (w.heap.size + 1 + 1) w1 W → Below w.heap.size w W ∧ W.heap[q]? = some (.cells #[.int .i64 (-sx), .int .i64 (-sy), .int .i64 (-sz)] 34 (0, 0)) ∧ W.heap[w.heap.size + 1]? = some (.cells #[.slice none 0 0, .slice none 0 0] 61 (0, 0)) ∧ CSet W b (setL l) := fun W k =>
    ⟨hX1.trans ⟨k.os, k.tape, k.output, k.size, fun j hj => k.block j (by omega) (by omega)⟩, (k.block q hql (by omega)).trans hqr, (k.block _ (by omega) (by omega)).trans hr1, hset1.keep (k.block b (by omega) (by omega))⟩
  clear kb c0 c1 c2 hm0 hr0 hm1 hr1 hqr hset1 hs
  go_wp2
  go_loopw [16] (fun i wr => ∃ (k : Nat) (vh vc : Value), k ≤ u.length ∧ i = .int .i64 k ∧ MeetS w1 (w.heap.size + 1 + 1) 61 vh vc (hitB (u.take k) l (sx, sy, sz)) (conB (u.take k) l (sx, sy, sz)) wr) (fun i _ => u.length - (intOf i).toNat)
  case atStart => exact ⟨0, _, _, Nat.zero_le _, rfl, st0⟩
  case round =>
    clear st0
    obtain ⟨k, vh, vc, hk, rfl, st⟩ := hrel
    rename World => w2
    obtain ⟨Ah, ch, rfl⟩ := st.hits.sl.form
    obtain ⟨Ac, cc, rfl⟩ := st.cons.sl.form
    obtain ⟨hX2, hq2, hr2, hS2⟩ := hkeep _ st.keep
    have hs2 := st.keep.size
    rcases Nat.lt_or_eq_of_le hk with hkn | rfl
    · obtain ⟨be, oe, x, y, z, rfl, -, hbe, hce, r0, r1, r2⟩ := (hu.below hX2).cells hkn
      have hnx := nu _ (List.mem_of_getElem? hce)
      have hk0 : (0 : Int) ≤ k := by omega
      have hk1 : (k : Int) < u.length := by omega
      have wk := wrapS (n := (k : Int) + 1) (by omega)
      obtain ⟨W2, hW2⟩ : ∃ W2, W2 = w2.alloc (.cells #[.int .i64 x, .int .i64 y, .int .i64 z] 34) := ⟨_, rfl⟩
      have hb2 : Below w2.heap.size w2 W2 := by rw [hW2]; exact below_alloc _ _
      have hz2 : W2.heap.size = w2.heap.size + 1 := by rw [hW2]; simp
      have hc2 : W2.heap[w2.heap.size]? = some (.cells #[.int .i64 x, .int .i64 y, .int .i64 z] 34 (0, 0)) := by rw [hW2]; exact heap_alloc_new w2 _
      have hnn := hn
      unfold Near at hnx hn
      dsimp only at hnx hn
      have kM := bitMover_ok x y z (-sx) (-sy) (-sz) q W2 ((hb2.block q (by omega)).trans hq2) (by omega) (by omega) (by omega)
      have hback : backC (sx, sy, sz) (x, y, z) = (x + -sx, y + -sy, z + -sz) := rfl
      obtain ⟨e0, e1, e2⟩ := three_cellsB hc2
      have st2 := st.below hb2
      clear st hu nu hq2
      go_wp2_with fail
      rw [← hW2]
      clear hW2 r0 r1 r2
      refine kM.mono ?_
      rintro e w3 ⟨rfl, hB3⟩
      have hz3 := hB3.size
      obtain ⟨W4, hW4⟩ : ∃ W4, W4 = w3.alloc (.cells #[.int .i64 (x + -sx), .int .i64 (y + -sy), .int .i64 (z + -sz)] 34) := ⟨_, rfl⟩
      have hb4 : Below w3.heap.size w3 W4 := by rw [hW4]; exact below_alloc _ _
      have hz4 : W4.heap.size = w3.heap.size + 1 := by rw [hW4]; simp
      have hd4 : W4.heap[w3.heap.size]? = some (.cells #[.int .i64 (x + -sx), .int .i64 (y + -sy), .int .i64 (z + -sz)] 34 (0, 0)) := by rw [hW4]; exact heap_alloc_new w3 _
      have hc4 : W4.heap[w2.heap.size]? = some (.cells #[.int .i64 x, .int .i64 y, .int .i64 z] 34 (0, 0)) := (hb4.block _ (by omega)).trans ((hB3.block _ (by omega)).trans hc2)
      have st4 := (st2.below hB3).below hb4
      obtain ⟨-, -, -, hS4⟩ := hkeep _ st4.keep
      obtain ⟨e0, e1, e2⟩ := three_cellsB hc4
      obtain ⟨d0, d1, d2⟩ := three_cellsB hd4
      obtain ⟨⟨m0, m1⟩, m2, m3⟩ := two_cellsB st4.m
      have hle4 : w1.heap.size ≤ W4.heap.size ∧ w2.heap.size < W4.heap.size ∧ w3.heap.size < W4.heap.size := by omega
      obtain ⟨hl4, hl5, hl6⟩ := hle4
      clear kM st2 hb2 hc2 hB3 hb4 hc4 hd4 hX2 hr2 hS2 hz2 hz3 hz4
      by_cases hb : backC (sx, sy, sz) (x, y, z) ∈ l
      · obtain ⟨t1, t2⟩ := hit_take hce hb
        have hin : decide ((x + -sx, y + -sy, z + -sz) ∈ setL l) = true := decide_eq_true (mem_setL.2 (by rw [← hback]; exact hb))
        have HT := Lib.hid (And.intro t1 t2)
        have HS := Lib.hid st4
        have hlen : (hitB (u.take k) l (sx, sy, sz)).length + 1 ≤ 1000000 := by
          have : (hitB (u.take k) l (sx, sy, sz)).length ≤ (u.take k).length := List.length_filter_le _ _
          rw [List.length_take] at this
          omega
        have hown := st4.hits
        have hmv : ∀ (V : World), (W4.alloc (.cells #[.int .i64 x, .int .i64 y, .int .i64 z] 34)).grownBy V (Value.slice Ah (hitB (u.take k) l (sx, sy, sz)).length ch).ownBlock → V.heap[w.heap.size + 1 + 1]? = W4.heap[w.heap.size + 1 + 1]? := fun V hg =>
          (hg.block _ (by simp; omega) (fun e => by have := (HS.out.hits.ge e.symm).1; omega)).trans (Below.heap_alloc _ _ _ (by omega))
        have hm4 := Lib.hid st4.m
        clear st4 hb t1 t2 hback
        go_wp2_with fail
        rw [← hW4]
        clear hW4
        rw [bitLook b (setL l) W4 hS4 (x + -sx) (y + -sy) (z + -sz) true hin]
        go_wp2_with (first
          | (at_builtin; refine wpList_append_one rfl _ _ rfl w1.heap.size (by omega) _ _ rfl hown (x, y, z) rfl hlen ?_; intro v5 w5 hown5 hg5 hv5 hf5; obtain ⟨g5, c5, rfl⟩ := hf5; have hm5 := (hmv _ hg5).trans hm4.out; obtain ⟨⟨p0, p1⟩, p2, p3⟩ := two_cellsB hm5))
        refine ⟨⟨k + 1, (.slice (some ⟨g5, 0, none⟩) ((hitB (u.take k) l (sx, sy, sz)).length + 1) c5), (.slice Ac (conB (u.take k) l (sx, sy, sz)).length cc), hkn, rfl, ?_⟩, by simp [intOf]; omega⟩
        rw [HT.out.1, HT.out.2]
        exact HS.out.hit (by omega) hown5 hg5 hv5
      · have hin : decide ((x + -sx, y + -sy, z + -sz) ∈ setL l) = false := decide_eq_false (fun h => hb (by rw [hback]; exact mem_setL.1 h))
        have kT := bitTouches_ok b (setL l) (x + -sx) (y + -sy) (z + -sz) W4 hS4 (by unfold Near; dsimp only; omega)
        rw [touch_setL, ← hback] at kT
        cases ht : touchB l (backC (sx, sy, sz) (x, y, z)) with
        | true =>
          rw [ht] at kT
          obtain ⟨t1, t2⟩ := con_take hce hb ht
          have HT := Lib.hid (And.intro t1 t2)
          have HS := Lib.hid st4
          have hlen : (conB (u.take k) l (sx, sy, sz)).length + 1 ≤ 1000000 := by
            have : (conB (u.take k) l (sx, sy, sz)).length ≤ (u.take k).length := List.length_filter_le _ _
            rw [List.length_take] at this
            omega
          clear hb t1 t2 hback ht st4
          go_wp2_with fail
          rw [← hW4]
          clear hW4
          rw [bitLook b (setL l) W4 hS4 (x + -sx) (y + -sy) (z + -sz) false hin]
          go_wp2_with fail
          refine kT.mono ?_
          rintro e w6 ⟨rfl, hB6⟩
          have hz6 := hB6.size
          have st6 := HS.out.below hB6
          obtain ⟨e0, e1, e2⟩ : w6.cell? ⟨w2.heap.size, 0, none⟩ = some (.int .i64 x) ∧ w6.cell? ⟨w2.heap.size, 1, none⟩ = some (.int .i64 y) ∧ w6.cell? ⟨w2.heap.size, 2, none⟩ = some (.int .i64 z) :=
            ⟨(hB6.cell (p := ⟨w2.heap.size, 0, none⟩) (by show w2.heap.size < _; omega)).trans e0, (hB6.cell (p := ⟨w2.heap.size, 1, none⟩) (by show w2.heap.size < _; omega)).trans e1, (hB6.cell (p := ⟨w2.heap.size, 2, none⟩) (by show w2.heap.size < _; omega)).trans e2⟩
          obtain ⟨⟨m0, m1⟩, m2, m3⟩ := two_cellsB st6.m
          have hown := st6.cons
          have HS6 := Lib.hid st6
          have hmv : ∀ (V : World), (w6.alloc (.cells #[.int .i64 x, .int .i64 y, .int .i64 z] 34)).grownBy V (Value.slice Ac (conB (u.take k) l (sx, sy, sz)).length cc).ownBlock → V.heap[w.heap.size + 1 + 1]? = w6.heap[w.heap.size + 1 + 1]? := fun V hg =>
            (hg.block _ (by simp; omega) (fun e => by have := (HS6.out.cons.ge e.symm).1; omega)).trans (Below.heap_alloc _ _ _ (by omega))
          have hm6 := Lib.hid st6.m
          clear st6 hB6 kT hS4 d0 d1 d2
          go_wp2_with (at_builtin; refine wpList_append_one rfl _ _ rfl w1.heap.size (by omega) _ _ rfl hown (x, y, z) rfl hlen ?_; intro v5 w5 hown5 hg5 hv5 hf5; obtain ⟨g5, c5, rfl⟩ := hf5; have hm5 := (hmv _ hg5).trans hm6.out; obtain ⟨⟨p0, p1⟩, p2, p3⟩ := two_cellsB hm5)
          refine ⟨⟨k + 1, (.slice Ah (hitB (u.take k) l (sx, sy, sz)).length ch), (.slice (some ⟨g5, 0, none⟩) ((conB (u.take k) l (sx, sy, sz)).length + 1) c5), hkn, rfl, ?_⟩, by simp [intOf]; omega⟩
          rw [HT.out.1, HT.out.2]
          exact HS6.out.con (by omega) hown5 hg5 hv5
        | false =>
          rw [ht] at kT
          obtain ⟨t1, t2⟩ := none_take hce hb ht
          have HT := Lib.hid (And.intro t1 t2)
          have HS := Lib.hid st4
          clear hb t1 t2 hback ht st4
          go_wp2_with fail
          rw [← hW4]
          clear hW4
          rw [bitLook b (setL l) W4 hS4 (x + -sx) (y + -sy) (z + -sz) false hin]
          go_wp2_with fail
          refine kT.mono ?_
          rintro e w6 ⟨rfl, hB6⟩
          have st6 := HS.out.below hB6
          have HS6 := Lib.hid st6
          clear st6 hB6 kT hS4 d0 d1 d2
          go_wp2
          refine ⟨⟨k + 1, (.slice Ah (hitB (u.take k) l (sx, sy, sz)).length ch), (.slice Ac (conB (u.take k) l (sx, sy, sz)).length cc), hkn, rfl, ?_⟩, by simp [intOf]; omega⟩
          rw [HT.out.1, HT.out.2]
          exact HS6.out
    · rw [List.take_length] at st
      have hlenu : (u.take u.length) = u := List.take_length
      rw [hlenu] at *
      obtain ⟨⟨m0, m1⟩, m2, m3⟩ := two_cellsB st.m
      obtain ⟨⟨r0, r1⟩, r2, r3⟩ := two_cellsB hr2
      have HS := Lib.hid st
      have hMz := st.m
      have hne : w.heap.size + 1 + 1 ≠ w.heap.size + 1 := by omega
      have hne' : w.heap.size + 1 ≠ w.heap.size + 1 + 1 := by omega
      have hX := Lib.hid hX2
      clear st hu nu hX2 hS2 hq2
      by_cases hH : hitB u l (sx, sy, sz) = []
      · have hcm : conM u l (sx, sy, sz) = conB u l (sx, sy, sz) := by unfold conM; rw [if_pos hH]
        have HCM := Lib.hid hcm
        have h0 : ¬ (0 : Int) < (hitB u l (sx, sy, sz)).length := by rw [hH]; simp
        have hF : ((w2.setCell ⟨w.heap.size + 1, 0, none⟩ (.slice Ah (hitB u l (sx, sy, sz)).length ch)).setCell ⟨w.heap.size + 1, 1, none⟩ (.slice Ac (conB u l (sx, sy, sz)).length cc)).heap[w.heap.size + 1]? = some (.cells #[.slice Ah (hitB u l (sx, sy, sz)).length ch, .slice Ac (conB u l (sx, sy, sz)).length cc] 61 (0, 0)) := by
          have := heap_setCell_same _ (w.heap.size + 1) 1 _ _ (.slice Ac (conB u l (sx, sy, sz)).length cc) (heap_setCell_same _ (w.heap.size + 1) 0 _ _ (.slice Ah (hitB u l (sx, sy, sz)).length ch) hr2)
          simpa using this
        have HF := Lib.hid hF
        have HH := Lib.hid hH
        clear hH hF hr2 hcm hMz
        go_wp2
        refine bodyPost_ret (results_cell_row rfl _ _ _ 61 #[.slice Ah (hitB u l (sx, sy, sz)).length ch, .slice Ac (conB u l (sx, sy, sz)).length cc] (0, 0) _ rfl HF.out Tryz.underlying61 rfl (by kernel_rfl)) rfl ?_
        have hsm : ∀ k, k ≠ w.heap.size + 1 → ((w2.setCell ⟨w.heap.size + 1, 0, none⟩ (.slice Ah (hitB u l (sx, sy, sz)).length ch)).setCell ⟨w.heap.size + 1, 1, none⟩ (.slice Ac (conB u l (sx, sy, sz)).length cc)).heap[k]? = w2.heap[k]? := fun k hk => (Below.heap_setCell _ ⟨w.heap.size + 1, 1, none⟩ _ k hk).trans (Below.heap_setCell _ ⟨w.heap.size + 1, 0, none⟩ _ k hk)
        exact ⟨Ah, Ac, ch, cc, by rw [HCM.out], (HS.out.hits.same fun g e => hsm g (by have := (HS.out.hits.ge e).1; omega)).mono hX1.size, by rw [HCM.out]; exact (HS.out.cons.same fun g e => hsm g (by have := (HS.out.cons.ge e).1; omega)).mono hX1.size, (hX.out.setCell (p := ⟨w.heap.size + 1, 0, none⟩) (Nat.le_succ _) _).setCell (p := ⟨w.heap.size + 1, 1, none⟩) (Nat.le_succ _) _⟩
      · have hcm : conM u l (sx, sy, sz) = [] := by unfold conM; rw [if_neg hH]
        have HCM := Lib.hid hcm
        have h0 : (0 : Int) < (hitB u l (sx, sy, sz)).length := by have := List.length_pos_iff.2 hH; omega
        obtain ⟨W5, hW5⟩ : ∃ W5, W5 = w2.setCell ⟨w.heap.size + 1 + 1, 1, none⟩ (.slice none 0 0) := ⟨_, rfl⟩
        have hsz5 : W5.heap.size = w2.heap.size := by rw [hW5]; simp [World.setCell]
        have hm5 : W5.heap[w.heap.size + 1 + 1]? = some (.cells #[.slice Ah (hitB u l (sx, sy, sz)).length ch, .slice none 0 0] 61 (0, 0)) := by
          have := heap_setCell_same w2 (w.heap.size + 1 + 1) 1 _ _ (.slice none 0 0) hMz
          rw [hW5]
          simpa using this
        have hs5 : ∀ k, k ≠ w.heap.size + 1 + 1 → W5.heap[k]? = w2.heap[k]? := fun k hk => by rw [hW5]; exact Below.heap_setCell _ ⟨w.heap.size + 1 + 1, 1, none⟩ _ k hk
        have hr5 := (hs5 _ (by omega : w.heap.size + 1 ≠ w.heap.size + 1 + 1)).trans hr2
        have hX5 : Below w.heap.size w W5 := by rw [hW5]; exact hX.out.setCell (p := ⟨w.heap.size + 1 + 1, 1, none⟩) (by show w.heap.size ≤ w.heap.size + 1 + 1; omega) _
        have HX5 := Lib.hid hX5
        have HH := Lib.hid hH
        have hF : ((W5.setCell ⟨w.heap.size + 1, 0, none⟩ (.slice Ah (hitB u l (sx, sy, sz)).length ch)).setCell ⟨w.heap.size + 1, 1, none⟩ (.slice none 0 0)).heap[w.heap.size + 1]? = some (.cells #[.slice Ah (hitB u l (sx, sy, sz)).length ch, .slice none 0 0] 61 (0, 0)) := by
          have := heap_setCell_same _ (w.heap.size + 1) 1 _ _ (.slice none 0 0) (heap_setCell_same _ (w.heap.size + 1) 0 _ _ (.slice Ah (hitB u l (sx, sy, sz)).length ch) hr5)
          simpa using this
        have HF := Lib.hid hF
        obtain ⟨⟨m0', m1'⟩, m2', m3'⟩ := two_cellsB hm5
        obtain ⟨⟨r0', r1'⟩, r2', r3'⟩ := two_cellsB hr5
        clear hF hr2 hr5 hm5 hcm hH hMz hX5
        go_wp2_with fail
        rw [← hW5]
        clear hW5 m0 m1 m2 m3 r0 r1 r2 r3
        go_wp2
        refine bodyPost_ret (results_cell_row rfl _ _ _ 61 #[.slice Ah (hitB u l (sx, sy, sz)).length ch, .slice none 0 0] (0, 0) _ rfl HF.out Tryz.underlying61 rfl (by kernel_rfl)) rfl ?_
        have hsm : ∀ k, k ≠ w.heap.size + 1 → k ≠ w.heap.size + 1 + 1 → ((W5.setCell ⟨w.heap.size + 1, 0, none⟩ (.slice Ah (hitB u l (sx, sy, sz)).length ch)).setCell ⟨w.heap.size + 1, 1, none⟩ (.slice none 0 0)).heap[k]? = w2.heap[k]? := fun k hk hk2 => ((Below.heap_setCell _ ⟨w.heap.size + 1, 1, none⟩ _ k hk).trans (Below.heap_setCell _ ⟨w.heap.size + 1, 0, none⟩ _ k hk)).trans (hs5 k hk2)
        exact ⟨Ah, none, ch, 0, by rw [HCM.out]; rfl, (HS.out.hits.same fun g e => hsm g (by have := (HS.out.hits.ge e).1; omega) (by have := (HS.out.hits.ge e).1; omega)).mono hX1.size, by rw [HCM.out]; exact Own.nil _ _, (HX5.out.setCell (p := ⟨w.heap.size + 1, 0, none⟩) (Nat.le_succ _) _).setCell (p := ⟨w.heap.size + 1, 1, none⟩) (Nat.le_succ _) _⟩
end Go.Proofs
