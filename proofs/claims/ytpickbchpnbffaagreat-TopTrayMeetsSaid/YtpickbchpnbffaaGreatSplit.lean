/- grid.split, of two ascending lists. -/
import Derived.Test.YtpickbchpnbffaaGreatHas
import Derived.Test.YtpickbchpnbffaaGreatGrP
import Derived.Test.YtpickbchpnbffaaGreatInsR
import Derived.Maps.AppendAt
namespace Go.Proofs
open Go.RowKit
set_option maxHeartbeats 8000000
set_option maxRecDepth 1000000
/-- append, of a list of cells, to a row of the call's own: with where the new row lies. -/
theorem wpList_append_at {w : World} {ops : Array Oper} {rest : List Oper} {o : Oper} {a : Act} {Q : Exit → Act → World → Prop} (hgd : o.guard = none) (s x : Operand)
    (ho : o.op = .call { callee := .builtin .append, args := #[s, x], argTypes := #[22, 22] }) (B : Nat) (hB : B ≤ w.heap.size) (v : Value) (l : List Cel) (hs : a.eval s = v) (hown : Own w B v l)
    (ad : Addr) (cap : Nat) (m : List Cel) (hx : a.eval x = .slice (some ad) m.length cap) (hm : m ≠ [] → ad.spot = none ∧ ad.block < w.heap.size ∧ RowAt w ad.block ad.off m) (hn : l.length + m.length ≤ 1000000)
    (h : ∀ v' w', Own w' B v' (l ++ m) → w.grownBy w' v.ownBlock → (v'.ownBlock = v.ownBlock ∨ v'.ownBlock = some w.heap.size) → wpList Tryz.prog ops Q rest (a.put o.dst v') w') : wpList Tryz.prog ops Q (o :: rest) a w := by
  obtain ⟨j0, hj, hy0, hy1, hy2⟩ := info_parts (P := Tryz.prog) (e := 34) (z := .agg #[.int .i64 0, .int .i64 0, .int .i64 0]) (size := 3) (bytes := 24) (by kernel_rfl)
  obtain ⟨v', w', hr, h1, h2, _, h3⟩ := run_append_own_at (P := Tryz.prog) w B 22 o.type 34 j0 _ 3 24 Tryz.underlying22 hj hy0 hy1 hy2 rfl (by decide) v l.length (flatC l) hown ad m.length cap (flatC m) (flatC_len3 m) (sl_cells hm) flatC_one3 (by unfold maxLen; omega) (by omega) hB
  refine wpList_plain hgd fun K hK => ?_
  unfold Oper.wp execOp
  simp only [ho, resolve, invoke, builtin, Sem.run_bind, Sem.run_pure, Result.andThen_ok, List.map_toArray, List.map_cons, List.map_nil, hs, hx, hr]
  exact hK _ _ (h v' w' (own_of h1 List.length_append.symm (flatC_append l m).symm) h2 h3)
theorem Own.grown {w w' : World} {B : Nat} {v : Value} {l : List Cel} {row : Option Nat} (h : Own w B v l) (hg : w.grownBy w' row) (hne : v.ownBlock = none ∨ v.ownBlock ≠ row) : Own w' B v l := World.ownsRow.kept h hg hne
def Apart2 (v u : Value) : Prop := v.ownBlock = none ∨ u.ownBlock = none ∨ v.ownBlock ≠ u.ownBlock
theorem Apart2.symm {v u : Value} (h : Apart2 v u) : Apart2 u v := by
  rcases h with h | h | h
  · exact .inr (.inl h)
  · exact .inl h
  · exact .inr (.inr (Ne.symm h))
/-- What an append to the one leaves of the other. -/
theorem apart_append {w w' : World} {B : Nat} {v v' u : Value} {l : List Cel} (hu : Own w B u l) (ha : Apart2 v u) (hg : w.grownBy w' v.ownBlock) (hv : v'.ownBlock = v.ownBlock ∨ v'.ownBlock = some w.heap.size) : Own w' B u l ∧ Apart2 v' u := by
  refine ⟨hu.grown hg ?_, ?_⟩
  · rcases ha with h | h | h
    · rw [h]
      cases hub : u.ownBlock with
      | none => exact .inl rfl
      | some g => exact .inr (by simp)
    · exact .inl h
    · exact .inr (Ne.symm h)
  · rcases hv with h | h
    · rw [show Apart2 v' u = (v'.ownBlock = none ∨ u.ownBlock = none ∨ v'.ownBlock ≠ u.ownBlock) from rfl, h]
      exact ha
    · refine .inr ?_
      cases hub : u.ownBlock with
      | none => exact .inl rfl
      | some g =>
        refine .inr ?_
        rw [h]
        intro e
        have := (hu.lt g hub).2
        injection e with e
        omega
theorem filter_take {f : Cel → Bool} {l : List Cel} {k : Nat} {c : Cel} (hc : l[k]? = some c) : (l.take (k + 1)).filter f = (l.take k).filter f ++ (if f c then [c] else []) := by
  obtain ⟨h1, h2⟩ := List.getElem?_eq_some_iff.1 hc
  rw [List.take_succ_eq_append_getElem h1, h2, List.filter_append]
  congr 1
  cases h : f c <;> simp [h]
theorem up_drop {l : List Cel} (h : Up l) {k : Nat} {c : Cel} (hc : l[k]? = some c) : ∀ x ∈ l.drop k, x = c ∨ ltC c x = true := fun x hx => by
  obtain ⟨i, hi⟩ := List.mem_iff_getElem?.1 hx
  rw [List.getElem?_drop] at hi
  rcases Nat.eq_zero_or_pos i with rfl | hp
  · rw [Nat.add_zero, hc] at hi
    exact .inl (Option.some.inj hi).symm
  · exact .inr (up_get h hc hi (by omega))
theorem sl_cut {w : World} {g o n c : Nat} {y : Cel} {m : List Cel} (h : Sl w (.slice (some ⟨g, o, none⟩) n c) (y :: m)) {o' : Nat} (ho : m ≠ [] → o' = o + 3) (n' c' : Nat) (hn : n' = m.length) : Sl w (.slice (some ⟨g, o', none⟩) n' c') m := by
  subst hn
  rcases h with ⟨h, _⟩ | ⟨a, cap, e, h⟩
  · cases h
  · injection e with e1 e2 _
    injection e1 with e1
    subst e1
    refine .inr ⟨_, c', rfl, fun hm => ?_⟩
    obtain ⟨_, h2, h3⟩ := h (by simp)
    rw [ho hm]
    refine ⟨rfl, h2, fun i c hi => ?_⟩
    obtain ⟨r0, r1, r2⟩ := h3 (i + 1) c (by simpa using hi)
    dsimp only at r0 r1 r2
    rw [show o + (i + 1) * 3 = o + 3 + i * 3 by omega] at r0 r1 r2
    exact ⟨r0, r1, r2⟩
theorem split_ok (a b : List Cel) (va : Value) (A : Option Addr) (bcap : Nat) (w : World) (ha : Sl w va a) (hb : Sl w (.slice A b.length bcap) b) (hcap : b.length ≤ bcap) (hcm : bcap ≤ 9223372036854775807) (hua : Up a) (hub : Up b) (la : a.length ≤ 10000) :
    Calls Tryz.prog 38 #[va, .slice A b.length bcap] w fun e w' => ∃ v1 v2, e = .returned (.tuple #[v1, v2]) ∧ Own w' w.heap.size v1 (a.filter fun c => decide (c ∈ b)) ∧ Own w' w.heap.size v2 (a.filter fun c => !decide (c ∈ b)) ∧ Below w.heap.size w w' := by
  obtain ⟨Aa, acap, rfl⟩ := ha.form
  go_enter Tryz.func38, Tryz.ntmps38
  go_wp2
  go_loopw [1, 4, 5, 10] (fun sb s4 s5 i wr => ∃ (k n bc : Nat) (A' : Option Addr) (p m : List Cel), k ≤ a.length ∧ i = .int .i64 k ∧ sb = .slice A' n bc ∧ n = m.length ∧ n ≤ bc ∧ bc ≤ 9223372036854775807 ∧ b = p ++ m ∧ (∀ x ∈ p, ∀ c ∈ a.drop k, ltC x c = true) ∧ Sl w (.slice A' n bc) m ∧
    Own wr w.heap.size s4 ((a.take k).filter fun c => decide (c ∈ b)) ∧ Own wr w.heap.size s5 ((a.take k).filter fun c => !decide (c ∈ b)) ∧ Apart2 s4 s5 ∧ Below w.heap.size w wr) (fun _ _ _ i _ => a.length - (intOf i).toNat)
  case atStart => exact ⟨0, b.length, bcap, A, [], b, Nat.zero_le _, rfl, rfl, rfl, hcap, hcm, rfl, fun x h => (nomatch h), hb, Own.nil _ _, Own.nil _ _, .inl rfl, Below.refl _ _⟩
  case round =>
    obtain ⟨k, n, bc, A', p, m, hk, rfl, rfl, hnm, hnb, hbc, hbpm, hlow, hsb, h4, h5, hap, hBel⟩ := hrel
    rename World => w1
    rcases Nat.lt_or_eq_of_le hk with hkn | rfl
    · obtain ⟨bk, o, x, y, z, rfl, -, hbk, hc, r0, r1, r2⟩ := ha.cells hkn
      have R0 := (hBel.cell (p := ⟨bk, _, none⟩) hbk).trans r0
      have R1 := (hBel.cell (p := ⟨bk, _, none⟩) hbk).trans r1
      have R2 := (hBel.cell (p := ⟨bk, _, none⟩) hbk).trans r2
      have hk0 : (0 : Int) ≤ k := by omega
      have hk1 : (k : Int) < a.length := by omega
      obtain ⟨W, hW⟩ : ∃ W, W = w1.alloc (.cells #[.int .i64 x, .int .i64 y, .int .i64 z] 34) := ⟨_, rfl⟩
      have hBW : Below w1.heap.size w1 W := by subst hW; exact (Below.refl _ _).alloc (Nat.le_refl _) _
      have c0 : W.cell? ⟨w1.heap.size, 0, none⟩ = some (.int .i64 x) := by subst hW; go_simp
      have c1 : W.cell? ⟨w1.heap.size, 1, none⟩ = some (.int .i64 y) := by subst hW; go_simp
      have c2 : W.cell? ⟨w1.heap.size, 2, none⟩ = some (.int .i64 z) := by subst hW; go_simp
      have hwW : w1.heap.size < W.heap.size := by subst hW; simp
      have Hnm := Lib.hid hnm
      have Hb := Lib.hid hbpm
      clear hnm hbpm ha hb
      go_wp2_with fail
      rw [← hW]
      clear hW
      go_loopw [1] (fun sb w2 => ∃ (n bc : Nat) (A' : Option Addr) (p m : List Cel), sb = .slice A' n bc ∧ n = m.length ∧ n ≤ bc ∧ bc ≤ 9223372036854775807 ∧ b = p ++ m ∧ (∀ q ∈ p, ∀ c ∈ a.drop k, ltC q c = true) ∧ Sl w (.slice A' n bc) m ∧ Below W.heap.size W w2) (fun sb _ => sliceLen sb)
      case atStart => exact ⟨n, bc, A', p, m, rfl, Hnm.out, hnb, hbc, Hb.out, hlow, hsb, Below.refl _ _⟩
      case round =>
        clear hsb hlow Hnm Hb hnb hbc
        obtain ⟨n, bc, A', p, m, rfl, hnm, hnb, hbc, hbpm, hlow, hsb, hBT⟩ := hrel
        rename World => w2
        have hBw2 := hBel.trans ((hBW.trans (hBT.mono hBW.size)).mono hBel.size)
        rcases m with _ | ⟨⟨mx, my, mz⟩, m⟩
        · obtain rfl : n = 0 := hnm
          have hin : decide ((x, y, z) ∈ b) = false := decide_eq_false fun h => by
            rw [hbpm, List.append_nil] at h
            have := hlow _ h (x, y, z) (List.mem_iff_getElem?.2 ⟨0, by rw [List.getElem?_drop, Nat.add_zero]; exact hc⟩)
            rw [ltC_irr] at this
            cases this
          have Hb := Lib.hid hbpm
          clear hbpm
          go_upto_region 4 with fail
          go_quiet (fail)
          rename Nat => q1
          go_upto_region 6 with fail
          go_quiet (fail)
          rename Nat => q2
          go_upto_region 8 with fail
          have hBT' : Below W.heap.size W ((w2.drewN q1).drewN q2) := ⟨hBT.os, hBT.tape, hBT.output, hBT.size, hBT.block⟩
          clear hBT hBw2
          have hBT := hBT'
          clear hBT'
          generalize (w2.drewN q1).drewN q2 = wT at hBT ⊢
          have hBwT := hBel.trans ((hBW.trans (hBT.mono hBW.size)).mono hBel.size)
          have t0 := (hBT.cell (p := ⟨w1.heap.size, 0, none⟩) hwW).trans c0
          have t1 := (hBT.cell (p := ⟨w1.heap.size, 1, none⟩) hwW).trans c1
          have t2 := (hBT.cell (p := ⟨w1.heap.size, 2, none⟩) hwW).trans c2
          have hB1T := hBW.trans (hBT.mono hBW.size)
          have g4 := h4.keep hB1T
          have g5 := h5.keep hB1T
          have hl4 : ((a.take k).filter fun c => decide (c ∈ b)).length ≤ 10000 := Nat.le_trans (List.length_filter_le _ _) (Nat.le_trans (List.length_take_le' _ _) la)
          have hl5 : ((a.take k).filter fun c => !decide (c ∈ b)).length ≤ 10000 := Nat.le_trans (List.length_filter_le _ _) (Nat.le_trans (List.length_take_le' _ _) la)
          have f4 := filter_take (f := fun c => decide (c ∈ b)) hc
          have f5 := filter_take (f := fun c => !decide (c ∈ b)) hc
          simp only [hin, Bool.not_false, Bool.false_eq_true, if_true, if_false, List.append_nil] at f4 f5
          have F4 := Lib.hid f4
          have F5 := Lib.hid f5
          have hB4' : w.heap.size ≤ (wT.alloc (.cells #[.int .i64 x, .int .i64 y, .int .i64 z] 34)).heap.size := by have := hBwT.size; simp; omega
          clear f4 f5 hin h4 h5 hBT hBel hBW hB1T c0 c1 c2
          go_wp2_with (at_builtin; refine wpList_append_at rfl _ _ rfl w.heap.size hB4' _ _ rfl (Own.alloc g5 _) ⟨wT.heap.size, 0, none⟩ 1 [(x, y, z)] rfl (row_one wT x y z) (by simp; omega) ?_)
          intro v8 w8 hown8 hg8 hv8
          obtain ⟨hoth, hap8⟩ := apart_append (Own.alloc g4 _) hap.symm hg8 (by rw [show (wT.alloc (.cells #[.int .i64 x, .int .i64 y, .int .i64 z] 34)).heap.size = wT.heap.size + 1 by simp]; exact hv8)
          have hB8 := (hBwT.alloc hBwT.size (.cells #[.int .i64 x, .int .i64 y, .int .i64 z] 34)).grown hg8 hB4' (fun k hk => (g5.lt k hk).1)
          clear g5 g4 hg8 hv8 t0 t1 t2
          go_wp2
          have hlow2 : ∀ q ∈ p, ∀ c ∈ a.drop (k + 1), ltC q c = true := fun q hq c hcd => hlow q hq c (List.mem_of_mem_drop (i := 1) (by rw [List.drop_drop]; exact hcd))
          exact ⟨⟨k + 1, 0, bc, A', p, [], hkn, rfl, rfl, rfl, hnb, hbc, Hb.out, hlow2, hsb, by rw [F4.out]; exact hoth, by rw [F5.out]; exact hown8, hap8.symm, hB8⟩, by simp [intOf]; omega⟩
        · have hn0 : 0 < n := by rw [hnm]; simp
          obtain ⟨g, off, ex, ey, ez, rfl, -, hg, he, s0, s1, s2⟩ := hsb.cells (k := 0) (by simp)
          obtain ⟨rfl, rfl, rfl⟩ : mx = ex ∧ my = ey ∧ mz = ez := by simpa using he
          simp only [Nat.zero_mul, Nat.add_zero] at s0 s1 s2
          have Q0 := (hBw2.cell (p := ⟨g, _, none⟩) hg).trans s0
          have Q1 := (hBw2.cell (p := ⟨g, _, none⟩) hg).trans s1
          have Q2 := (hBw2.cell (p := ⟨g, _, none⟩) hg).trans s2
          have C0 := (hBT.cell (p := ⟨w1.heap.size, 0, none⟩) hwW).trans c0
          have C1 := (hBT.cell (p := ⟨w1.heap.size, 1, none⟩) hwW).trans c1
          have C2 := (hBT.cell (p := ⟨w1.heap.size, 2, none⟩) hwW).trans c2
          have hcm := fun W => compareCells_ok mx my mz x y z W
          have hlt3 := cmp3_neg (mx, my, mz) (x, y, z)
          dsimp only at hlt3
          generalize cmp3 mx my mz x y z = r at hlt3 hcm
          have hn0' : (0 : Int) < n := by omega
          have Hnm := Lib.hid hnm
          have Hb := Lib.hid hbpm
          clear hnm hbpm he R0 R1 R2
          go_upto_region 4 with fail
          go_still_tail 8, (by kernel_rfl)
          change wpList _ _ _ _ _ w2.drew
          have hBd : Below W.heap.size W w2.drew := ⟨hBT.os, hBT.tape, hBT.output, hBT.size, hBT.block⟩
          clear Q0 Q1 Q2 C0 C1 C2 hBT hBw2
          generalize w2.drew = w3 at hBd ⊢
          cases hlt : ltC (mx, my, mz) (x, y, z) with
          | true =>
            have hr : r < 0 := hlt3.2 hlt
            clear hlt3
            have hlow' : ∀ q ∈ p ++ [(mx, my, mz)], ∀ c ∈ a.drop k, ltC q c = true := fun q hq c hcd => by
              rcases List.mem_append.1 hq with h | h
              · exact hlow q h c hcd
              · obtain rfl := List.mem_singleton.1 h
                rcases up_drop hua hc c hcd with rfl | h
                · exact hlt
                · exact ltC_tr hlt h
            have hbp' : b = (p ++ [(mx, my, mz)]) ++ m := by rw [Hb.out, List.append_assoc]; rfl
            have Hb' := Lib.hid hbp'
            clear hbp' hlow Hb
            by_cases hb1 : bc = 1
            · subst hb1
              have hm0 : m.length = 0 := by
                have := Hnm.out
                rw [List.length_cons] at this
                omega
              have Hm0 := Lib.hid hm0
              clear hm0
              go_wp2_with (go_at_call 73; refine (hcm _).mono ?_; rintro e w4 ⟨rfl, hB4⟩)
              exact ⟨⟨0, 0, some ⟨g, off, none⟩, p ++ [(mx, my, mz)], m, rfl, Hm0.out.symm, Nat.le_refl _, by omega, Hb'.out, hlow', sl_cut hsb (fun h => absurd (List.eq_nil_of_length_eq_zero Hm0.out) h) 0 0 Hm0.out.symm, hBd.trans (hB4.mono hBd.size)⟩, by simp [sliceLen]; omega⟩
            · have hb2 : 1 < bc := by omega
              have hm1 : n - 1 = m.length := by rw [Hnm.out, List.length_cons, Nat.add_sub_cancel]
              have Hm1 := Lib.hid hm1
              clear hm1
              go_wp2_with (go_at_call 73; refine (hcm _).mono ?_; rintro e w4 ⟨rfl, hB4⟩)
              exact ⟨⟨n - 1, bc - 1, some ⟨g, off + 3, none⟩, p ++ [(mx, my, mz)], m, rfl, Hm1.out, by omega, by omega, Hb'.out, hlow', sl_cut hsb (fun _ => rfl) (n - 1) (bc - 1) Hm1.out, hBd.trans (hB4.mono hBd.size)⟩, by simp [sliceLen]; omega⟩
          | false =>
            have hr : ¬ r < 0 := fun h => by rw [hlt3.1 h] at hlt; cases hlt
            clear hlt3
            go_upto_region 6 with (go_at_call 73; refine (hcm _).mono ?_; rintro e w4 ⟨rfl, hB4⟩)
            have hBT := hBd.trans (hB4.mono hBd.size)
            have hBw4 := hBel.trans ((hBW.trans (hBT.mono hBW.size)).mono hBel.size)
            have Q0 := (hBw4.cell (p := ⟨g, _, none⟩) hg).trans s0
            have Q1 := (hBw4.cell (p := ⟨g, _, none⟩) hg).trans s1
            have Q2 := (hBw4.cell (p := ⟨g, _, none⟩) hg).trans s2
            have C0 := (hBT.cell (p := ⟨w1.heap.size, 0, none⟩) hwW).trans c0
            have C1 := (hBT.cell (p := ⟨w1.heap.size, 1, none⟩) hwW).trans c1
            have C2 := (hBT.cell (p := ⟨w1.heap.size, 2, none⟩) hwW).trans c2
            have heq := fun W => eqCell mx my mz x y z W
            clear hBd hB4 hBw4 hcm hr
            by_cases he : (mx, my, mz) = (x, y, z)
            · have hbq : (mx == x && (my == y && mz == z)) = true := by simpa using he
              rw [hbq] at heq
              have hin : decide ((x, y, z) ∈ b) = true := decide_eq_true (by rw [Hb.out, he]; simp)
              clear hbq
              go_quiet (fail)
              rename Nat => q1
              go_upto_region 7 with fail
              have hBT' : Below W.heap.size W (w4.drewN q1) := ⟨hBT.os, hBT.tape, hBT.output, hBT.size, hBT.block⟩
              clear hBT Q0 Q1 Q2 C0 C1 C2
              have hBT := hBT'
              clear hBT'
              generalize w4.drewN q1 = wT at hBT ⊢
              have hBwT := hBel.trans ((hBW.trans (hBT.mono hBW.size)).mono hBel.size)
              have t0 := (hBT.cell (p := ⟨w1.heap.size, 0, none⟩) hwW).trans c0
              have t1 := (hBT.cell (p := ⟨w1.heap.size, 1, none⟩) hwW).trans c1
              have t2 := (hBT.cell (p := ⟨w1.heap.size, 2, none⟩) hwW).trans c2
              have hB1T := hBW.trans (hBT.mono hBW.size)
              have g4 := h4.keep hB1T
              have g5 := h5.keep hB1T
              have hl4 : ((a.take k).filter fun c => decide (c ∈ b)).length ≤ 10000 := Nat.le_trans (List.length_filter_le _ _) (Nat.le_trans (List.length_take_le' _ _) la)
              have hl5 : ((a.take k).filter fun c => !decide (c ∈ b)).length ≤ 10000 := Nat.le_trans (List.length_filter_le _ _) (Nat.le_trans (List.length_take_le' _ _) la)
              have f4 := filter_take (f := fun c => decide (c ∈ b)) hc
              have f5 := filter_take (f := fun c => !decide (c ∈ b)) hc
              simp only [hin, Bool.not_true, Bool.false_eq_true, if_true, if_false, List.append_nil] at f4 f5
              have F4 := Lib.hid f4
              have F5 := Lib.hid f5
              have hB4' : w.heap.size ≤ (wT.alloc (.cells #[.int .i64 x, .int .i64 y, .int .i64 z] 34)).heap.size := by have := hBwT.size; simp; omega
              clear f4 f5 hin h4 h5 hBT hBel hBW hB1T c0 c1 c2
              go_wp2_with (at_builtin; refine wpList_append_at rfl _ _ rfl w.heap.size hB4' _ _ rfl (Own.alloc g4 _) ⟨wT.heap.size, 0, none⟩ 1 [(x, y, z)] rfl (row_one wT x y z) (by simp; omega) ?_)
              intro v8 w8 hown8 hg8 hv8
              obtain ⟨hoth, hap8⟩ := apart_append (Own.alloc g5 _) hap hg8 (by rw [show (wT.alloc (.cells #[.int .i64 x, .int .i64 y, .int .i64 z] 34)).heap.size = wT.heap.size + 1 by simp]; exact hv8)
              have hB8 := (hBwT.alloc hBwT.size (.cells #[.int .i64 x, .int .i64 y, .int .i64 z] 34)).grown hg8 hB4' (fun k hk => (g4.lt k hk).1)
              clear g4 g5 hg8 hv8 t0 t1 t2
              go_wp2
              have hlow2 : ∀ q ∈ p, ∀ c ∈ a.drop (k + 1), ltC q c = true := fun q hq c hcd => hlow q hq c (List.mem_of_mem_drop (i := 1) (by rw [List.drop_drop]; exact hcd))
              exact ⟨⟨k + 1, n, bc, some ⟨g, off, none⟩, p, (mx, my, mz) :: m, hkn, rfl, rfl, Hnm.out, hnb, hbc, Hb.out, hlow2, hsb, by rw [F4.out]; exact hown8, by rw [F5.out]; exact hoth, hap8, hB8⟩, by simp [intOf]; omega⟩
            · have hbq : (mx == x && (my == y && mz == z)) = false := by
                simp only [Bool.and_eq_false_iff, beq_eq_false_iff_ne, ne_eq]
                simp only [Prod.mk.injEq] at he
                omega
              rw [hbq] at heq
              have hgt : ltC (x, y, z) (mx, my, mz) = true := by
                cases e : ltC (x, y, z) (mx, my, mz) with
                | true => rfl
                | false => exact absurd (antiC _ _ hlt e) he
              have hin : decide ((x, y, z) ∈ b) = false := decide_eq_false fun h => by
                rw [Hb.out] at h
                have hub' := hub
                rw [Hb.out] at hub'
                rcases List.mem_append.1 h with h | h
                · have := hlow _ h (x, y, z) (List.mem_iff_getElem?.2 ⟨0, by rw [List.getElem?_drop, Nat.add_zero]; exact hc⟩)
                  rw [ltC_irr] at this
                  cases this
                · rcases List.mem_cons.1 h with h | h
                  · exact he h.symm
                  · have h1 := (List.pairwise_cons.1 (List.pairwise_append.1 hub').2.1).1 _ h
                    have := ltC_tr hgt h1
                    rw [ltC_irr] at this
                    cases this
              clear hbq
              go_quiet (fail)
              rename Nat => q1
              go_upto_region 8 with fail
              have hBT' : Below W.heap.size W (w4.drewN q1) := ⟨hBT.os, hBT.tape, hBT.output, hBT.size, hBT.block⟩
              clear hBT Q0 Q1 Q2 C0 C1 C2
              have hBT := hBT'
              clear hBT'
              generalize w4.drewN q1 = wT at hBT ⊢
              have hBwT := hBel.trans ((hBW.trans (hBT.mono hBW.size)).mono hBel.size)
              have t0 := (hBT.cell (p := ⟨w1.heap.size, 0, none⟩) hwW).trans c0
              have t1 := (hBT.cell (p := ⟨w1.heap.size, 1, none⟩) hwW).trans c1
              have t2 := (hBT.cell (p := ⟨w1.heap.size, 2, none⟩) hwW).trans c2
              have hB1T := hBW.trans (hBT.mono hBW.size)
              have g4 := h4.keep hB1T
              have g5 := h5.keep hB1T
              have hl4 : ((a.take k).filter fun c => decide (c ∈ b)).length ≤ 10000 := Nat.le_trans (List.length_filter_le _ _) (Nat.le_trans (List.length_take_le' _ _) la)
              have hl5 : ((a.take k).filter fun c => !decide (c ∈ b)).length ≤ 10000 := Nat.le_trans (List.length_filter_le _ _) (Nat.le_trans (List.length_take_le' _ _) la)
              have f4 := filter_take (f := fun c => decide (c ∈ b)) hc
              have f5 := filter_take (f := fun c => !decide (c ∈ b)) hc
              simp only [hin, Bool.not_false, Bool.false_eq_true, if_true, if_false, List.append_nil] at f4 f5
              have F4 := Lib.hid f4
              have F5 := Lib.hid f5
              have hB4' : w.heap.size ≤ (wT.alloc (.cells #[.int .i64 x, .int .i64 y, .int .i64 z] 34)).heap.size := by have := hBwT.size; simp; omega
              clear f4 f5 hin h4 h5 hBT hBel hBW hB1T c0 c1 c2
              go_wp2_with (at_builtin; refine wpList_append_at rfl _ _ rfl w.heap.size hB4' _ _ rfl (Own.alloc g5 _) ⟨wT.heap.size, 0, none⟩ 1 [(x, y, z)] rfl (row_one wT x y z) (by simp; omega) ?_)
              intro v8 w8 hown8 hg8 hv8
              obtain ⟨hoth, hap8⟩ := apart_append (Own.alloc g4 _) hap.symm hg8 (by rw [show (wT.alloc (.cells #[.int .i64 x, .int .i64 y, .int .i64 z] 34)).heap.size = wT.heap.size + 1 by simp]; exact hv8)
              have hB8 := (hBwT.alloc hBwT.size (.cells #[.int .i64 x, .int .i64 y, .int .i64 z] 34)).grown hg8 hB4' (fun k hk => (g5.lt k hk).1)
              clear g5 g4 hg8 hv8 t0 t1 t2
              go_wp2
              have hlow2 : ∀ q ∈ p, ∀ c ∈ a.drop (k + 1), ltC q c = true := fun q hq c hcd => hlow q hq c (List.mem_of_mem_drop (i := 1) (by rw [List.drop_drop]; exact hcd))
              exact ⟨⟨k + 1, n, bc, some ⟨g, off, none⟩, p, (mx, my, mz) :: m, hkn, rfl, rfl, Hnm.out, hnb, hbc, Hb.out, hlow2, hsb, by rw [F4.out]; exact hoth, by rw [F5.out]; exact hown8, hap8.symm, hB8⟩, by simp [intOf]; omega⟩
    · rw [List.take_length] at h4 h5
      clear ha hb hsb
      go_wp2
      go_ret2
      exact ⟨_, _, rfl, h4, h5, hBel⟩
end Go.Proofs
