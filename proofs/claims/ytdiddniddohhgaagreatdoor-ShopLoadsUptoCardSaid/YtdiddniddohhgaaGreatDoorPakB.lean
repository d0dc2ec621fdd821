/- Loads: packed of shop. -/
import Derived.Test.YtdiddniddohhgaaGreatDoorPakA
import Derived.Test.YtdiddniddohhgaaGreatDoorPakQ
namespace Go.Proofs
open Go.RowKit Go.MapKept
set_option maxHeartbeats 16000000
set_option maxRecDepth 1000000
theorem packed_ok (cp : Int) (l : List ItemT) (ns : List Int) (v vn : Value) (w : World) (hl : SlF encQ w v l) (hi : SlI w vn ns) (hc : cp ≤ 999999999) (hx : ∀ x ∈ l, 0 ≤ x.2.2 ∧ x.2.2 ≤ 999999999) (hlen : ns.length ≤ l.length) (h64 : l.length ≤ 64) :
    Calls Tryz.prog 41 #[v, .int .i64 cp, vn] w fun e w' => (∃ A c, e = .returned (.tuple #[.slice A (packP cp l ns).2.length c, .int .i64 (packP cp l ns).1])) ∧ Below w.heap.size w w' := by
  obtain ⟨Al, cl, rfl⟩ := hl.form
  obtain ⟨An, cn, rfl⟩ := hi.form
  have hO0 : OwnF encO 2 168 w w.heap.size (.slice none 0 0) [] := OwnF.nil _ _ _
  have hX0 := Below.refl w.heap.size w
  have HHL := Lib.hid hl
  have HHI := Lib.hid hi
  have HHX := Lib.hid hx
  have HLN := Lib.hid hlen
  have H64 := Lib.hid h64
  have HC := Lib.hid hc
  clear hl hi hx hlen h64 hc
  go_enter Tryz.func41, Tryz.ntmps41
  go_wp2_with fail
  go_loopw [8, 13] (fun sv iv wr => ∃ (k : Nat) (s : List LoadT), k ≤ ns.length ∧ iv = .int .i64 k ∧ packK cp l ns k = (0, s) ∧ s.length ≤ k ∧ (∀ o ∈ s, 0 ≤ o.2 ∧ o.2 ≤ 999999999) ∧ OwnF encO 2 168 wr w.heap.size sv s ∧ Below w.heap.size w wr) (fun _ iv _ => ns.length - (intOf iv).toNat)
  case atStart => exact ⟨0, [], Nat.zero_le _, rfl, rfl, Nat.le_refl _, fun o h => by simp at h, hO0, hX0⟩
  case round =>
    clear hO0 hX0
    obtain ⟨k, s, hk, rfl, hpk, hsk, hsb, hown, hX⟩ := hrel
    rename World => w3
    obtain ⟨As, cs, hsv⟩ := (hown.sl encO_len).form
    subst hsv
    rcases Nat.lt_or_eq_of_le hk with hkn | rfl
    · obtain ⟨⟨nm, pr, sz⟩, hxk⟩ : ∃ x, l[k]? = some x := ⟨_, List.getElem?_eq_getElem (by have := HLN.out; omega)⟩
      obtain ⟨bn, on, n, rfl, -, hbn, hn, rn⟩ := (HHI.out.below hX).cells (k := k) hkn
      obtain ⟨bl, ol, rfl, -, hbl, r0, r1, r2⟩ := ite_cells (HHL.out.below hX) hxk
      dsimp only at r0 r1 r2
      have hblw : bl < w.heap.size := (ite_cells HHL.out hxk).elim fun b h => h.elim fun o h => by obtain ⟨e, -, h3, -⟩ := h; injection e with e; injection e with e _; rw [e]; exact h3
      have hxb := HHX.out _ (List.mem_of_getElem? hxk)
      dsimp only at hxb
      have hps := packK_succ (cap := cp) hxk hn
      rw [hpk] at hps
      have hkl : k < l.length := (List.getElem?_eq_some_iff.1 hxk).1
      have hk0 : (0 : Int) ≤ k := by omega
      have hk1 : (k : Int) < ns.length := by omega
      have hk2 : (k : Int) < l.length := by omega
      have HPS := Lib.hid hps
      have HSB := Lib.hid hsb
      have HXB := Lib.hid hxb
      have HK := Lib.hid (show k + 1 ≤ ns.length from hkn)
      have HM := Lib.hid (show ns.length - (k + 1) < ns.length - k by omega)
      have HWK := Lib.hid (wrapsLQ (show k < 1048576 by have := H64.out; omega))
      have HSK := Lib.hid hsk
      have HBAD : RowKit.Hid (∀ e t, stepL cp (0, s) (nm, pr, sz) n = (e, t) → e ≠ 0 → packP cp l ns = (e, t)) := Lib.hid fun e t h he => by
        unfold packP
        rw [packK_bad (k := k + 1) (by rw [HPS.out, h]; exact he) ns.length HK.out, HPS.out, h]
      clear hps hsb hxb hpk hsk hxk hn hkn
      obtain ⟨b1, hb1⟩ : ∃ b, decide (n < 0) = b := ⟨_, rfl⟩
      cases b1 with
      | true =>
        have hn0 : n < 0 := of_decide_eq_true hb1
        have hr := HBAD.out 11 [] (by unfold stepL; rw [if_neg (by simp), if_pos (.inl hn0)]) (by decide)
        have HR := Lib.hid hr
        clear hr hn0
        go_wp2_with fail
        go_ret2
        rw [HR.out]
        exact ⟨⟨_, _, rfl⟩, hX⟩
      | false =>
      have hn0 : ¬ n < 0 := of_decide_eq_false hb1
      obtain ⟨b2, hb2⟩ : ∃ b, decide ((s.length : Int) < n) = b := ⟨_, rfl⟩
      cases b2 with
      | true =>
        have hn1 : (s.length : Int) < n := of_decide_eq_true hb2
        have hr := HBAD.out 11 [] (by unfold stepL; rw [if_neg (by simp), if_pos (.inr hn1)]) (by decide)
        have HR := Lib.hid hr
        clear hr hn0 hn1
        go_wp2_with fail
        go_ret2
        rw [HR.out]
        exact ⟨⟨_, _, rfl⟩, hX⟩
      | false =>
      have hn1 : ¬ (s.length : Int) < n := of_decide_eq_false hb2
      obtain ⟨q, rfl⟩ : ∃ q : Nat, n = q := ⟨n.toNat, by omega⟩
      have hqs : q ≤ s.length := by omega
      have HQS := Lib.hid hqs
      by_cases hqe : q = s.length
      case pos =>
        subst hqe
        have hbe : (((s.length : Nat) : Int) == ((s.length : Nat) : Int)) = true := by simp
        have hgl : growL s (nm, pr, sz) ((s.length : Nat) : Int) = s ++ [(pr, 0)] := by unfold growL; rw [if_pos rfl]
        obtain ⟨Wt, hWt⟩ : ∃ Wt, Wt = w3.alloc (.cells #[.string pr, .int .i64 0] 168) := ⟨_, rfl⟩
        have hBt : Below w3.heap.size w3 Wt := by subst hWt; exact (Below.refl _ _).alloc (Nat.le_refl _) _
        have hrowN : Wt.heap[w3.heap.size]? = some (.cells (encO (pr, 0)).toArray 168 (0, 0)) := by subst hWt; exact heap_alloc_new w3 _
        have hownT := hown.keep hBt
        have hXt := hX.trans (hBt.mono hX.size)
        obtain ⟨A4, c4, w4, hap, hown4, hg4, -⟩ := run_append_one (P := Tryz.prog) Wt 94 94 168 w.heap.size _ s (pr, 0) encO_len encO_one hownT w3.heap.size 1 24 (.agg #[.string ⟨#[]⟩, .int .i64 0]) Tryz.underlying94 (by kernel_rfl) rfl (by decide) (by decide) (flat_rowQ hrowN) (by have := HSK.out; have := H64.out; have := HLN.out; omega) hXt.size
        have hX4 : Below w.heap.size w w4 := hXt.grown hg4 hXt.size (fun g e => (hownT.lt g e).1)
        have hbl4 : bl < w4.heap.size := Nat.lt_of_lt_of_le hblw hX4.size
        have r1' : w4.cell? ⟨bl, ol + k * 3 + 1, none⟩ = some (.string pr) := by
          have hr := r1
          rw [hX.cell (p := ⟨bl, ol + k * 3 + 1, none⟩) hblw] at hr
          rw [hX4.cell (p := ⟨bl, ol + k * 3 + 1, none⟩) hblw]
          exact hr
        have r2' : w4.cell? ⟨bl, ol + k * 3 + 2, none⟩ = some (.int .i64 sz) := by
          have hr := r2
          rw [hX.cell (p := ⟨bl, ol + k * 3 + 2, none⟩) hblw] at hr
          rw [hX4.cell (p := ⟨bl, ol + k * 3 + 2, none⟩) hblw]
          exact hr
        obtain ⟨o, ho⟩ : ∃ o, (s ++ [(pr, (0 : Int))])[s.length]? = some o := ⟨_, List.getElem?_eq_getElem (by simp)⟩
        have hqb : ∀ o ∈ s ++ [(pr, (0 : Int))], 0 ≤ o.2 ∧ o.2 ≤ 999999999 := fun o ho => by
          rcases List.mem_append.1 ho with h | h
          · exact HSB.out o h
          · obtain rfl : o = (pr, 0) := by simpa using h
            exact ⟨Int.le_refl _, by show (0 : Int) ≤ 999999999; omega⟩
        have hbd := hqb o (List.mem_of_getElem? ho)
        have hla : loadAt (growL s (nm, pr, sz) ((s.length : Nat) : Int)) ((s.length : Nat) : Int) = o := by
          unfold loadAt
          rw [hgl, Int.toNat_natCast, ho]
          rfl
        have hql2 : (s ++ [(pr, (0 : Int))]).length ≤ k + 1 := by rw [List.length_append, List.length_singleton]; have := HSK.out; omega
        have HWT := Lib.hid hWt
        have HAP := Lib.hid hap
        have HQ1 := Lib.hid hqb
        have HQ2 := Lib.hid (And.intro hown4 hX4)
        have HQ3 := Lib.hid (And.intro ho (And.intro hgl (And.intro hla (And.intro hbd hql2))))
        clear hWt hap hqb hown4 hX4 ho hgl hla hbd hql2 hown hownT hXt hg4 hBt hrowN hX hn0 hn1
        go_wp2_with (at_builtin; rw [← HWT.out]; refine Lib.wpList_append_run _ rfl _ _ _ _ rfl _ _ rfl rfl _ _ HAP.out ?_)
        have hqb := HQ1.out
        have hown := HQ2.out.1
        obtain ⟨L1, hL1⟩ : ∃ L1, L1 = s.length + 1 := ⟨_, rfl⟩
        rw [← hL1] at hown ⊢
        have HL1 := Lib.hid hL1
        have hj1 : ((s.length : Nat) : Int) < (L1 : Nat) := by omega
        clear hL1
        have hX4 := HQ2.out.2
        obtain ⟨ho, hgl, hla, hbd, hql2⟩ := HQ3.out
        have hbl := hbl4
        have r2 := r2'
        clear r2'
        -- the row is s ++ [(pr, (0 : Int))] (in w4), the load at s.length is o, @hgl@: growL = s ++ [(pr, (0 : Int))]
        obtain ⟨gs, c2, hse, hgB, hgl2, p0, p1⟩ := load_cells hown ho
        injection hse with hse1 hse2 hse3
        subst hse1 hse3
        clear hse2
        have hj0 : (0 : Int) ≤ s.length := by omega
        obtain ⟨op, oz⟩ := o
        dsimp only at p0 p1 hbd
        have HLA := Lib.hid hla
        have HQB := Lib.hid hqb
        have HQL := Lib.hid hql2
        have HBLW := Lib.hid (show bl < w.heap.size ∧ w.heap.size ≤ gs from ⟨hblw, hgB⟩)
        have HGL := Lib.hid hgl
        obtain ⟨zb, hzb⟩ : ∃ zb, (op.toList == pr.toList) = zb := ⟨_, rfl⟩
        have HZB := Lib.hid hzb
        clear hla hgl hqb hql2
        go_quiet (fail)
        cases zb with
        | false =>
          have hne : op ≠ pr := fun e => by have := HZB.out; rw [e] at this; simp at this
          have hr := HBAD.out 13 [] (by
            unfold stepL
            rw [if_neg (by simp)]
            dsimp only
            rw [if_neg (by omega), HLA.out, if_pos hne]) (by decide)
          have HR := Lib.hid hr
          clear hr hne
          go_wp2_with fail
          go_ret2
          rw [HR.out]
          exact ⟨⟨_, _, rfl⟩, below_drewN hX4 _⟩
        | true =>
          have heq : op = pr := by
            apply Classical.byContradiction
            intro h
            have := HZB.out
            rw [bytes_ne h] at this
            cases this
          have HEQ := Lib.hid heq
          have hxb := HXB.out
          have wa1 : wrap64 (oz + sz) = oz + sz := wrap64_small (by omega)
          have wa2 : IntKind.i64.wrap (oz + sz) = oz + sz := wrap_small (by omega)
          clear heq hxb
          obtain ⟨W7, hW7⟩ : ∃ W7, W7 = w4.drewN nq := ⟨_, rfl⟩
          have hB7 : Below w4.heap.size w4 W7 := by rw [hW7]; exact below_drewN (Below.refl _ _) nq
          obtain ⟨WD, hWD⟩ : ∃ WD, WD = W7.drew := ⟨_, rfl⟩
          have hBD : Below w4.heap.size w4 WD := by rw [hWD]; exact hB7.drew
          have p7 : W7.cell? ⟨gs, s.length * 2 + 1, none⟩ = some (.int .i64 oz) := (hB7.cell (p := ⟨gs, s.length * 2 + 1, none⟩) hgl2).trans p1
          have r7 : W7.cell? ⟨bl, ol + k * 3 + 2, none⟩ = some (.int .i64 sz) := (hB7.cell (p := ⟨bl, ol + k * 3 + 2, none⟩) hbl).trans r2
          have p7D : W7.drew.cell? ⟨gs, s.length * 2 + 1, none⟩ = some (.int .i64 oz) := p7
          have r7D : W7.drew.cell? ⟨bl, ol + k * 3 + 2, none⟩ = some (.int .i64 sz) := r7
          have hnb : bl ≠ gs := fun e => by
            have h1 := HBLW.out
            omega
          have r8 : (W7.drew.setCell ⟨gs, s.length * 2 + 1, none⟩ (.int .i64 (oz + sz))).cell? ⟨bl, ol + k * 3 + 2, none⟩ = some (.int .i64 sz) := (World.cell?_of_block (a := ⟨bl, ol + k * 3 + 2, none⟩) (Below.heap_setCell _ ⟨gs, s.length * 2 + 1, none⟩ _ bl hnb)).trans r7D
          rw [← hW7]
          clear hW7
          have hownD := hown.keep hBD
          obtain ⟨gd, cdd, hsd, -, -, -, d1⟩ := load_cells hownD ho
          injection hsd with hsd hx1 hx2
          injection hsd with hsd
          injection hsd with hsd hx3
          subst hsd
          clear hx1 hx2 hx3
          have fzD : ∀ i, WD.frozen? ⟨gs, i, none⟩ = false := fun i => ownF_fz hownD i
          have fz7 : ∀ i, W7.drew.frozen? ⟨gs, i, none⟩ = false := fun i => by rw [← hWD]; exact fzD i
          obtain ⟨W8, hW8⟩ : ∃ W8, W8 = WD.setCell ⟨gs, s.length * 2 + 1, none⟩ (.int .i64 (oz + sz)) := ⟨_, rfl⟩
          have hown8 := ownO_store hownD (by rw [HL1.out]; simp) ho (oz + sz)
          rw [← hW8] at hown8
          have hX8 : Below w.heap.size w W8 := by rw [hW8]; exact (hX4.trans (hBD.mono hX4.size)).setCell hgB _
          have hset : ((s ++ [(pr, (0 : Int))]).set s.length (op, oz + sz))[s.length]? = some (op, oz + sz) := List.getElem?_set_self (List.getElem?_eq_some_iff.1 ho).1
          obtain ⟨g8, c8, hse8, -, -, e0, e1⟩ := load_cells hown8 hset
          injection hse8 with hse8 hx1 hx2
          injection hse8 with hse8
          injection hse8 with hse8 hx3
          subst hse8
          clear hx1 hx2 hx3
          obtain ⟨zb2, hzb2⟩ : ∃ b, decide (cp < oz + sz) = b := ⟨_, rfl⟩
          have HZB2 := Lib.hid hzb2
          rw [hWD] at hW8
          rw [← hW8] at r8
          have hW9 : W8 = (W7.setCell ⟨gs, s.length * 2 + 1, none⟩ (.int .i64 (oz + sz))).drew := by rw [hW8]; rfl
          have HW8 := Lib.hid hW9
          clear hW9
          have HWD := Lib.hid hWD
          have HO8 := Lib.hid (And.intro hown8 hX8)
          have HE1 := Lib.hid e1
          have HB := Lib.hid hbd
          clear hW8 hown8 hX8 hset e0 e1 hBD hownD hbd
          go_wp2_with fail
          refine wp_region_held_drew (S := fun V => V.cell? ⟨bl, ol + k * 3 + 2, none⟩ = some (.int .i64 sz)) (by kernel_rfl) r7D (fun hHeld => ?_)
          refine held_yes 0 (some 50) (.slice (some ⟨gs, 0, none⟩) L1 c4) rfl rfl (by kernel_rfl) (by kernel_rfl) (by kernel_rfl) (fun _ _ _ h => h) rfl (fun w' hS => by skip; go_simp) hHeld ?_
          try simp only [Act.put, List.setIfInBounds_toArray, List.set_cons_zero, List.set_cons_succ]
          refine held_yes 1 (some 51) (.int .i64 s.length) rfl rfl (by kernel_rfl) (by kernel_rfl) (by kernel_rfl) (fun _ _ _ h => h) rfl (fun w' hS => by skip; go_simp) hHeld ?_
          try simp only [Act.put, List.setIfInBounds_toArray, List.set_cons_zero, List.set_cons_succ]
          refine held_yes 2 (some 52) (.pointer (some ⟨gs, s.length * 2, none⟩)) rfl rfl (by kernel_rfl) (by kernel_rfl) (by kernel_rfl) (fun _ _ _ h => h) rfl (fun w' hS => by skip; go_simp) hHeld ?_
          try simp only [Act.put, List.setIfInBounds_toArray, List.set_cons_zero, List.set_cons_succ]
          refine held_yes 3 (some 53) (.pointer (some ⟨gs, s.length * 2 + 1, none⟩)) rfl rfl (by kernel_rfl) (by kernel_rfl) (by kernel_rfl) (fun _ _ _ h => h) rfl (fun w' hS => by skip; go_simp) hHeld ?_
          try simp only [Act.put, List.setIfInBounds_toArray, List.set_cons_zero, List.set_cons_succ]
          refine held_yes 5 (some 55) (.slice (some ⟨bl, ol, none⟩) l.length cl) rfl rfl (by kernel_rfl) (by kernel_rfl) (by kernel_rfl) (fun _ _ _ h => h) rfl (fun w' hS => by skip; go_simp) hHeld ?_
          try simp only [Act.put, List.setIfInBounds_toArray, List.set_cons_zero, List.set_cons_succ]
          refine held_yes 6 (some 56) (.int .i64 k) rfl rfl (by kernel_rfl) (by kernel_rfl) (by kernel_rfl) (fun _ _ _ h => h) rfl (fun w' hS => by skip; go_simp) hHeld ?_
          try simp only [Act.put, List.setIfInBounds_toArray, List.set_cons_zero, List.set_cons_succ]
          refine held_yes 7 (some 57) (.pointer (some ⟨bl, ol + k * 3, none⟩)) rfl rfl (by kernel_rfl) (by kernel_rfl) (by kernel_rfl) (fun _ _ _ h => h) rfl (fun w' hS => by skip; go_simp) hHeld ?_
          try simp only [Act.put, List.setIfInBounds_toArray, List.set_cons_zero, List.set_cons_succ]
          refine held_yes 8 (some 58) (.pointer (some ⟨bl, ol + k * 3 + 2, none⟩)) rfl rfl (by kernel_rfl) (by kernel_rfl) (by kernel_rfl) (fun _ _ _ h => h) rfl (fun w' hS => by skip; go_simp) hHeld ?_
          try simp only [Act.put, List.setIfInBounds_toArray, List.set_cons_zero, List.set_cons_succ]
          refine held_yes 9 (some 59) (.int .i64 sz) rfl rfl (by kernel_rfl) (by kernel_rfl) (by kernel_rfl) (fun _ _ _ h => h) rfl (fun w' hS => by skip; go_simp) hHeld ?_
          try simp only [Act.put, List.setIfInBounds_toArray, List.set_cons_zero, List.set_cons_succ]
          refine wpAnyH_ready (rs := [4]) (by kernel_rfl) (by simp) ?_
          refine AllReadyH.cons rfl (fun K hK => ?_) AllReadyH.nil
          go_simp
          refine hK.out _ _ r7D (fun hHeld => ?_)
          clear hK K
          try simp only [Act.put, List.setIfInBounds_toArray, List.set_cons_zero, List.set_cons_succ]
          refine held_yes 10 (some 60) (.int .i64 (oz + sz)) rfl rfl (by kernel_rfl) (by kernel_rfl) (by kernel_rfl) (fun _ _ _ h => h) rfl (fun w' hS => by skip; go_simp) hHeld ?_
          try simp only [Act.put, List.setIfInBounds_toArray, List.set_cons_zero, List.set_cons_succ]
          refine held_yes 11 (some 61) (.pointer (some ⟨gs, s.length * 2, none⟩)) rfl rfl (by kernel_rfl) (by kernel_rfl) (by kernel_rfl) (fun _ _ _ h => h) rfl (fun w' hS => by skip; go_simp) hHeld ?_
          try simp only [Act.put, List.setIfInBounds_toArray, List.set_cons_zero, List.set_cons_succ]
          refine held_yes 12 (some 62) (.pointer (some ⟨gs, s.length * 2 + 1, none⟩)) rfl rfl (by kernel_rfl) (by kernel_rfl) (by kernel_rfl) (fun _ _ _ h => h) rfl (fun w' hS => by skip; go_simp) hHeld ?_
          try simp only [Act.put, List.setIfInBounds_toArray, List.set_cons_zero, List.set_cons_succ]
          refine wpAnyH_ready (rs := [13]) (by kernel_rfl) (by simp) ?_
          refine AllReadyH.cons rfl (fun K hK => ?_) AllReadyH.nil
          go_simp
          rw [← HW8.out]
          refine hK.out _ _ r8 (fun hHeld => ?_)
          clear hK K
          try simp only [Act.put, List.setIfInBounds_toArray, List.set_cons_zero, List.set_cons_succ]
          refine wpAnyH_done (by kernel_rfl) ?_ _
          clear hHeld
          have hzb2 := HZB2.out
          have e1 := HE1.out
          cases zb2 with
          | true =>
            have hr := HBAD.out 4 [] (by
              unfold stepL
              rw [if_neg (by simp)]
              dsimp only
              rw [if_neg (by omega), HLA.out, if_neg (by simp [HEQ.out]), if_pos (of_decide_eq_true HZB2.out)]) (by decide)
            have HR := Lib.hid hr
            clear hr
            go_wp2_with fail
            go_ret2
            rw [HR.out]
            exact ⟨⟨_, _, rfl⟩, HO8.out.2⟩
          | false =>
            have hst := stepL_mk (cap := cp) (s := s) (x := (nm, pr, sz)) (n := ((s.length : Nat) : Int)) (by omega) (by omega) (by rw [HLA.out]; exact HEQ.out) (by rw [HLA.out]; have := of_decide_eq_false HZB2.out; show oz + sz ≤ cp; omega)
            rw [HLA.out, HGL.out, Int.toNat_natCast] at hst
            have hfin : packK cp l ns (k + 1) = (0, (s ++ [(pr, (0 : Int))]).set s.length (op, oz + sz)) := by rw [HPS.out, hst, HEQ.out]
            have hcc := HC.out
            have hbb : ∀ o ∈ (s ++ [(pr, (0 : Int))]).set s.length (op, oz + sz), 0 ≤ o.2 ∧ o.2 ≤ 999999999 := fun o ho' => by
              rcases List.mem_or_eq_of_mem_set ho' with h | h
              · exact HQB.out o h
              · rw [h]
                have h1 := of_decide_eq_false HZB2.out
                have h2 := HB.out
                have h3 := HXB.out
                show 0 ≤ oz + sz ∧ oz + sz ≤ 999999999
                omega
            have HFIN := Lib.hid (And.intro hfin (And.intro HQL.out hbb))
            obtain ⟨wk1, wk2⟩ := HWK.out
            clear hst hfin hbb hcc
            go_wp2_with fail
            go_roundw
            case rel => exact ⟨k + 1, _, HK.out, by simp, HFIN.out.1, by rw [List.length_set]; exact HFIN.out.2.1, HFIN.out.2.2, HO8.out.1, HO8.out.2⟩
            case measure => exact HM.out
      case neg =>
        have hbe : (((q : Nat) : Int) == ((s.length : Nat) : Int)) = false := by simp; omega
        have hgl : growL s (nm, pr, sz) (q : Int) = s := by unfold growL; rw [if_neg (by omega)]
        have hql : q < s.length := by omega
        obtain ⟨o, ho⟩ : ∃ o, s[q]? = some o := ⟨_, List.getElem?_eq_getElem hql⟩
        have hbd := HSB.out o (List.mem_of_getElem? ho)
        have hla : loadAt (growL s (nm, pr, sz) (q : Int)) (q : Int) = o := by
          unfold loadAt
          rw [hgl, Int.toNat_natCast, ho]
          rfl
        have hqb := HSB.out
        have hql2 : s.length ≤ k + 1 := by have := HSK.out; omega
        clear hn0 hn1 hqe
        go_wp2_with fail
        -- the row is s (in w3), the load at q is o, @hgl@: growL = s
        obtain ⟨gs, c2, hse, hgB, hgl2, p0, p1⟩ := load_cells hown ho
        injection hse with hse1 hse2 hse3
        subst hse1 hse3
        clear hse2
        have hj0 : (0 : Int) ≤ q := by omega
        have hj1 : ((q : Nat) : Int) < (s.length : Nat) := by omega
        obtain ⟨op, oz⟩ := o
        dsimp only at p0 p1 hbd
        have HLA := Lib.hid hla
        have HQB := Lib.hid hqb
        have HQL := Lib.hid hql2
        have HBLW := Lib.hid (show bl < w.heap.size ∧ w.heap.size ≤ gs from ⟨hblw, hgB⟩)
        have HGL := Lib.hid hgl
        obtain ⟨zb, hzb⟩ : ∃ zb, (op.toList == pr.toList) = zb := ⟨_, rfl⟩
        have HZB := Lib.hid hzb
        clear hla hgl hqb hql2
        go_quiet (fail)
        cases zb with
        | false =>
          have hne : op ≠ pr := fun e => by have := HZB.out; rw [e] at this; simp at this
          have hr := HBAD.out 13 [] (by
            unfold stepL
            rw [if_neg (by simp)]
            dsimp only
            rw [if_neg (by omega), HLA.out, if_pos hne]) (by decide)
          have HR := Lib.hid hr
          clear hr hne
          go_wp2_with fail
          go_ret2
          rw [HR.out]
          exact ⟨⟨_, _, rfl⟩, below_drewN hX _⟩
        | true =>
          have heq : op = pr := by
            apply Classical.byContradiction
            intro h
            have := HZB.out
            rw [bytes_ne h] at this
            cases this
          have HEQ := Lib.hid heq
          have hxb := HXB.out
          have wa1 : wrap64 (oz + sz) = oz + sz := wrap64_small (by omega)
          have wa2 : IntKind.i64.wrap (oz + sz) = oz + sz := wrap_small (by omega)
          clear heq hxb
          obtain ⟨W7, hW7⟩ : ∃ W7, W7 = w3.drewN nq := ⟨_, rfl⟩
          have hB7 : Below w3.heap.size w3 W7 := by rw [hW7]; exact below_drewN (Below.refl _ _) nq
          obtain ⟨WD, hWD⟩ : ∃ WD, WD = W7.drew := ⟨_, rfl⟩
          have hBD : Below w3.heap.size w3 WD := by rw [hWD]; exact hB7.drew
          have p7 : W7.cell? ⟨gs, q * 2 + 1, none⟩ = some (.int .i64 oz) := (hB7.cell (p := ⟨gs, q * 2 + 1, none⟩) hgl2).trans p1
          have r7 : W7.cell? ⟨bl, ol + k * 3 + 2, none⟩ = some (.int .i64 sz) := (hB7.cell (p := ⟨bl, ol + k * 3 + 2, none⟩) hbl).trans r2
          have p7D : W7.drew.cell? ⟨gs, q * 2 + 1, none⟩ = some (.int .i64 oz) := p7
          have r7D : W7.drew.cell? ⟨bl, ol + k * 3 + 2, none⟩ = some (.int .i64 sz) := r7
          have hnb : bl ≠ gs := fun e => by
            have h1 := HBLW.out
            omega
          have r8 : (W7.drew.setCell ⟨gs, q * 2 + 1, none⟩ (.int .i64 (oz + sz))).cell? ⟨bl, ol + k * 3 + 2, none⟩ = some (.int .i64 sz) := (World.cell?_of_block (a := ⟨bl, ol + k * 3 + 2, none⟩) (Below.heap_setCell _ ⟨gs, q * 2 + 1, none⟩ _ bl hnb)).trans r7D
          rw [← hW7]
          clear hW7
          have hownD := hown.keep hBD
          obtain ⟨gd, cdd, hsd, -, -, -, d1⟩ := load_cells hownD ho
          injection hsd with hsd hx1 hx2
          injection hsd with hsd
          injection hsd with hsd hx3
          subst hsd
          clear hx1 hx2 hx3
          have fzD : ∀ i, WD.frozen? ⟨gs, i, none⟩ = false := fun i => ownF_fz hownD i
          have fz7 : ∀ i, W7.drew.frozen? ⟨gs, i, none⟩ = false := fun i => by rw [← hWD]; exact fzD i
          obtain ⟨W8, hW8⟩ : ∃ W8, W8 = WD.setCell ⟨gs, q * 2 + 1, none⟩ (.int .i64 (oz + sz)) := ⟨_, rfl⟩
          have hown8 := ownO_store hownD (by simp) ho (oz + sz)
          rw [← hW8] at hown8
          have hX8 : Below w.heap.size w W8 := by rw [hW8]; exact (hX.trans (hBD.mono hX.size)).setCell hgB _
          have hset : ((s).set q (op, oz + sz))[q]? = some (op, oz + sz) := List.getElem?_set_self (List.getElem?_eq_some_iff.1 ho).1
          obtain ⟨g8, c8, hse8, -, -, e0, e1⟩ := load_cells hown8 hset
          injection hse8 with hse8 hx1 hx2
          injection hse8 with hse8
          injection hse8 with hse8 hx3
          subst hse8
          clear hx1 hx2 hx3
          obtain ⟨zb2, hzb2⟩ : ∃ b, decide (cp < oz + sz) = b := ⟨_, rfl⟩
          have HZB2 := Lib.hid hzb2
          rw [hWD] at hW8
          rw [← hW8] at r8
          have hW9 : W8 = (W7.setCell ⟨gs, q * 2 + 1, none⟩ (.int .i64 (oz + sz))).drew := by rw [hW8]; rfl
          have HW8 := Lib.hid hW9
          clear hW9
          have HWD := Lib.hid hWD
          have HO8 := Lib.hid (And.intro hown8 hX8)
          have HE1 := Lib.hid e1
          have HB := Lib.hid hbd
          clear hW8 hown8 hX8 hset e0 e1 hBD hownD hbd
          go_wp2_with fail
          refine wp_region_held_drew (S := fun V => V.cell? ⟨bl, ol + k * 3 + 2, none⟩ = some (.int .i64 sz)) (by kernel_rfl) r7D (fun hHeld => ?_)
          refine held_yes 0 (some 50) (.slice (some ⟨gs, 0, none⟩) s.length cs) rfl rfl (by kernel_rfl) (by kernel_rfl) (by kernel_rfl) (fun _ _ _ h => h) rfl (fun w' hS => by skip; go_simp) hHeld ?_
          try simp only [Act.put, List.setIfInBounds_toArray, List.set_cons_zero, List.set_cons_succ]
          refine held_yes 1 (some 51) (.int .i64 q) rfl rfl (by kernel_rfl) (by kernel_rfl) (by kernel_rfl) (fun _ _ _ h => h) rfl (fun w' hS => by skip; go_simp) hHeld ?_
          try simp only [Act.put, List.setIfInBounds_toArray, List.set_cons_zero, List.set_cons_succ]
          refine held_yes 2 (some 52) (.pointer (some ⟨gs, q * 2, none⟩)) rfl rfl (by kernel_rfl) (by kernel_rfl) (by kernel_rfl) (fun _ _ _ h => h) rfl (fun w' hS => by skip; go_simp) hHeld ?_
          try simp only [Act.put, List.setIfInBounds_toArray, List.set_cons_zero, List.set_cons_succ]
          refine held_yes 3 (some 53) (.pointer (some ⟨gs, q * 2 + 1, none⟩)) rfl rfl (by kernel_rfl) (by kernel_rfl) (by kernel_rfl) (fun _ _ _ h => h) rfl (fun w' hS => by skip; go_simp) hHeld ?_
          try simp only [Act.put, List.setIfInBounds_toArray, List.set_cons_zero, List.set_cons_succ]
          refine held_yes 5 (some 55) (.slice (some ⟨bl, ol, none⟩) l.length cl) rfl rfl (by kernel_rfl) (by kernel_rfl) (by kernel_rfl) (fun _ _ _ h => h) rfl (fun w' hS => by skip; go_simp) hHeld ?_
          try simp only [Act.put, List.setIfInBounds_toArray, List.set_cons_zero, List.set_cons_succ]
          refine held_yes 6 (some 56) (.int .i64 k) rfl rfl (by kernel_rfl) (by kernel_rfl) (by kernel_rfl) (fun _ _ _ h => h) rfl (fun w' hS => by skip; go_simp) hHeld ?_
          try simp only [Act.put, List.setIfInBounds_toArray, List.set_cons_zero, List.set_cons_succ]
          refine held_yes 7 (some 57) (.pointer (some ⟨bl, ol + k * 3, none⟩)) rfl rfl (by kernel_rfl) (by kernel_rfl) (by kernel_rfl) (fun _ _ _ h => h) rfl (fun w' hS => by skip; go_simp) hHeld ?_
          try simp only [Act.put, List.setIfInBounds_toArray, List.set_cons_zero, List.set_cons_succ]
          refine held_yes 8 (some 58) (.pointer (some ⟨bl, ol + k * 3 + 2, none⟩)) rfl rfl (by kernel_rfl) (by kernel_rfl) (by kernel_rfl) (fun _ _ _ h => h) rfl (fun w' hS => by skip; go_simp) hHeld ?_
          try simp only [Act.put, List.setIfInBounds_toArray, List.set_cons_zero, List.set_cons_succ]
          refine held_yes 9 (some 59) (.int .i64 sz) rfl rfl (by kernel_rfl) (by kernel_rfl) (by kernel_rfl) (fun _ _ _ h => h) rfl (fun w' hS => by skip; go_simp) hHeld ?_
          try simp only [Act.put, List.setIfInBounds_toArray, List.set_cons_zero, List.set_cons_succ]
          refine wpAnyH_ready (rs := [4]) (by kernel_rfl) (by simp) ?_
          refine AllReadyH.cons rfl (fun K hK => ?_) AllReadyH.nil
          go_simp
          refine hK.out _ _ r7D (fun hHeld => ?_)
          clear hK K
          try simp only [Act.put, List.setIfInBounds_toArray, List.set_cons_zero, List.set_cons_succ]
          refine held_yes 10 (some 60) (.int .i64 (oz + sz)) rfl rfl (by kernel_rfl) (by kernel_rfl) (by kernel_rfl) (fun _ _ _ h => h) rfl (fun w' hS => by skip; go_simp) hHeld ?_
          try simp only [Act.put, List.setIfInBounds_toArray, List.set_cons_zero, List.set_cons_succ]
          refine held_yes 11 (some 61) (.pointer (some ⟨gs, q * 2, none⟩)) rfl rfl (by kernel_rfl) (by kernel_rfl) (by kernel_rfl) (fun _ _ _ h => h) rfl (fun w' hS => by skip; go_simp) hHeld ?_
          try simp only [Act.put, List.setIfInBounds_toArray, List.set_cons_zero, List.set_cons_succ]
          refine held_yes 12 (some 62) (.pointer (some ⟨gs, q * 2 + 1, none⟩)) rfl rfl (by kernel_rfl) (by kernel_rfl) (by kernel_rfl) (fun _ _ _ h => h) rfl (fun w' hS => by skip; go_simp) hHeld ?_
          try simp only [Act.put, List.setIfInBounds_toArray, List.set_cons_zero, List.set_cons_succ]
          refine wpAnyH_ready (rs := [13]) (by kernel_rfl) (by simp) ?_
          refine AllReadyH.cons rfl (fun K hK => ?_) AllReadyH.nil
          go_simp
          rw [← HW8.out]
          refine hK.out _ _ r8 (fun hHeld => ?_)
          clear hK K
          try simp only [Act.put, List.setIfInBounds_toArray, List.set_cons_zero, List.set_cons_succ]
          refine wpAnyH_done (by kernel_rfl) ?_ _
          clear hHeld
          have hzb2 := HZB2.out
          have e1 := HE1.out
          cases zb2 with
          | true =>
            have hr := HBAD.out 4 [] (by
              unfold stepL
              rw [if_neg (by simp)]
              dsimp only
              rw [if_neg (by omega), HLA.out, if_neg (by simp [HEQ.out]), if_pos (of_decide_eq_true HZB2.out)]) (by decide)
            have HR := Lib.hid hr
            clear hr
            go_wp2_with fail
            go_ret2
            rw [HR.out]
            exact ⟨⟨_, _, rfl⟩, HO8.out.2⟩
          | false =>
            have hst := stepL_mk (cap := cp) (s := s) (x := (nm, pr, sz)) (n := ((q : Nat) : Int)) (by omega) (by omega) (by rw [HLA.out]; exact HEQ.out) (by rw [HLA.out]; have := of_decide_eq_false HZB2.out; show oz + sz ≤ cp; omega)
            rw [HLA.out, HGL.out, Int.toNat_natCast] at hst
            have hfin : packK cp l ns (k + 1) = (0, (s).set q (op, oz + sz)) := by rw [HPS.out, hst, HEQ.out]
            have hcc := HC.out
            have hbb : ∀ o ∈ (s).set q (op, oz + sz), 0 ≤ o.2 ∧ o.2 ≤ 999999999 := fun o ho' => by
              rcases List.mem_or_eq_of_mem_set ho' with h | h
              · exact HQB.out o h
              · rw [h]
                have h1 := of_decide_eq_false HZB2.out
                have h2 := HB.out
                have h3 := HXB.out
                show 0 ≤ oz + sz ∧ oz + sz ≤ 999999999
                omega
            have HFIN := Lib.hid (And.intro hfin (And.intro HQL.out hbb))
            obtain ⟨wk1, wk2⟩ := HWK.out
            clear hst hfin hbb hcc
            go_wp2_with fail
            go_roundw
            case rel => exact ⟨k + 1, _, HK.out, by simp, HFIN.out.1, by rw [List.length_set]; exact HFIN.out.2.1, HFIN.out.2.2, HO8.out.1, HO8.out.2⟩
            case measure => exact HM.out
    · have HR : RowKit.Hid (packP cp l ns = (0, s)) := Lib.hid hpk
      clear hpk hsb hown
      go_wp2_with fail
      go_ret2
      rw [HR.out]
      exact ⟨⟨_, _, rfl⟩, hX⟩
end Go.Proofs
