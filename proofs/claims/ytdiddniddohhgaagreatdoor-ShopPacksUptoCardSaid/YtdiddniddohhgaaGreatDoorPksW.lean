/- ShopPacks: the walk. -/
import Derived.Test.YtdiddniddohhgaaGreatDoorPakE
import Derived.Test.YtdiddniddohhgaaGreatDoorAwkShop
import Derived.Test.YtdiddniddohhgaaGreatDoorHeldF
import Derived.Deep.Cut
import Derived.Deep.CutRange
namespace Go.Proofs
open Go.AM Go.RowKit Go.MapKept
set_option maxHeartbeats 16000000
set_option maxRecDepth 1000000
theorem packs_in (v : Value) (l : List ItemT) (cp : Int) (w : World) (hgk : GOk gN gRows w) (hl : SlF encQ w v l) (hn : l.length ≤ 1048576) :
    Calls Tryz.prog 4 #[v, .int .i64 cp] w fun e w' => e = .returned (.bool true) ∧ Below w.heap.size w w' := by
  obtain ⟨n, hx⟩ := iteX_is cp l
  have kOwn := lawItems_ok v l w hl hn
  obtain ⟨Al, cl, rfl⟩ := hl.form
  go_enter Tryz.func4, Tryz.ntmps4
  go_wp2_with fail
  refine kOwn.mono ?_
  rintro e w1 ⟨⟨u, rfl, hu⟩, hB01⟩
  clear kOwn
  have hus := hu.sl encQ_len
  obtain ⟨Au, cu, rfl⟩ := hus.form
  have hBw : ∀ V, Below w1.heap.size w1 V → Below w.heap.size w V := fun V h => hB01.trans (h.mono hB01.size)
  have kSh := refShortQ_ok _ l 6 w1 hus
  have ksl : ∀ V, Below w1.heap.size w1 V → SlF encQ V (.slice Al l.length cl) l := fun V h => hl.below (hBw V h)
  have ksu : ∀ V, Below w1.heap.size w1 V → SlF encQ V (.slice Au l.length cu) l := fun V h => hus.below h
  have HKSL := Lib.hid ksl
  have HKSU := Lib.hid ksu
  have HX := Lib.hid hx
  have hX := Below.refl w1.heap.size w1
  clear hu hus hl hB01 ksl ksu hx
  obtain ⟨b6, hb6⟩ : ∃ b, decide ((6 : Int) < (l.length : Int)) = b := ⟨_, rfl⟩
  obtain ⟨bc, hbc⟩ : ∃ b, decide ((1000000 : Int) < cp) = b := ⟨_, rfl⟩
  have HB6 := Lib.hid hb6
  have HBC := Lib.hid hbc
  go_wp2_with fail
  refine kSh.mono ?_
  rintro e V1 ⟨⟨rs, rfl, -⟩, hB⟩
  replace hX := hX.trans (hB.mono hX.size)
  clear hB kSh
  cases rs with
  | false =>
    have hBo := hBw _ hX
    go_wp2_with (go_at_call 7; refine (awake9_ok _ (hgk.below hBo)).mono ?_; rintro e w9 ⟨rfl, hQ9⟩)
    go_ret
    exact ⟨rfl, hBo.trans (hQ9.mono hBo.size)⟩
  | true =>
  cases b6 with
  | true =>
    have hBo := hBw _ hX
    go_wp2_with (go_at_call 7; refine (awake9_ok _ (hgk.below hBo)).mono ?_; rintro e w9 ⟨rfl, hQ9⟩)
    go_ret
    exact ⟨rfl, hBo.trans (hQ9.mono hBo.size)⟩
  | false =>
  have hl6 : l.length ≤ 6 := by have := of_decide_eq_false HB6.out; omega
  have HL6 := Lib.hid hl6
  clear hl6
  have kC := iteR_ok cp n _ l V1 (HKSU.out V1 hX) HX.out
  obtain ⟨bn, hbn⟩ : ∃ bn, (n != 0) = bn := ⟨_, rfl⟩
  have HBN := Lib.hid hbn
  go_wp2_with fail
  refine kC.mono ?_
  rintro e V2 ⟨rfl, hB⟩
  replace hX := hX.trans (hB.mono hX.size)
  clear hB kC
  cases bn with
  | true =>
    have hBo := hBw _ hX
    go_wp2_with (go_at_call 7; refine (awake9_ok _ (hgk.below hBo)).mono ?_; rintro e w9 ⟨rfl, hQ9⟩)
    go_ret
    exact ⟨rfl, hBo.trans (hQ9.mono hBo.size)⟩
  | false =>
  obtain rfl : n = 0 := by have := HBN.out; simpa using this
  cases bc with
  | true =>
    have hBo := hBw _ hX
    go_wp2_with (go_at_call 7; refine (awake9_ok _ (hgk.below hBo)).mono ?_; rintro e w9 ⟨rfl, hQ9⟩)
    go_ret
    exact ⟨rfl, hBo.trans (hQ9.mono hBo.size)⟩
  | false =>
  have hcm : cp ≤ 1000000 := by have := of_decide_eq_false HBC.out; omega
  have HCM := Lib.hid hcm
  clear hcm hbn
  have hok := HX.out.ok
  have hcr := hok.cr
  have hx1 : IteX (cp + 1) l 0 := HX.out.more (by omega) (by have := HCM.out; omega)
  have HX1 := Lib.hid hx1
  have HOK := Lib.hid hok
  have wc1 : wrap64 (cp + 1) = cp + 1 := wrap64_small (by omega)
  have wc2 : IntKind.i64.wrap (cp + 1) = cp + 1 := wrap_small (by omega)
  have HCR := Lib.hid hcr
  have kL := loads_ok cp l _ V2 (HKSL.out V2 hX) HX.out (by have := HL6.out; omega)
  clear hok hcr hx1
  go_wp2_with fail
  refine kL.mono ?_
  rintro e V3 ⟨⟨A3, c3, M, b, rfl, hbs, hbest, hMl⟩, hB⟩
  replace hX := hX.trans (hB.mono hX.size)
  obtain ⟨sb, hsb, hsbM⟩ := hbest.cnt (by have := HCR.out; omega)
  have kK := chkV_ok hbest.full.len hsb HX.out _ _ V3 (HKSL.out V3 hX) hbs
  rw [hsbM] at kK
  have HBEST := Lib.hid hbest
  have HSB := Lib.hid (And.intro hsb hsbM)
  have HML := Lib.hid hMl
  clear kL hB hbs hbest hsb hsbM hMl
  go_wp2_with fail
  refine kK.mono ?_
  rintro e V4 ⟨rfl, hB⟩
  replace hX := hX.trans (hB.mono hX.size)
  clear kK hB
  have kF := fewestG_ok cp l _ V4 (HKSL.out V4 hX) HX.out
  have hfew : bndF cp (szI l l.length) ≤ M := by
    have hz := sz_ok l l.length (Nat.le_refl _)
    rw [List.take_length] at hz
    have h := few_le (by have := HCR.out; omega) HBEST.out.full.len HSB.out.1 hz.val hz.nd
    rw [HSB.out.2] at h
    exact h
  obtain ⟨fw, hfw⟩ : ∃ fw, fw = bndF cp (szI l l.length) := ⟨_, rfl⟩
  rw [← hfw] at kF hfew
  have HFEW := Lib.hid hfew
  clear hfw hfew
  go_wp2_with fail
  refine kF.mono ?_
  rintro e V5 ⟨rfl, hB⟩
  replace hX := hX.trans (hB.mono hX.size)
  clear kF hB
  have kL2 := loads_ok (cp + 1) l _ V5 (HKSL.out V5 hX) HX1.out (by have := HL6.out; omega)
  go_wp2_with fail
  refine kL2.mono ?_
  rintro e V6 ⟨⟨A6, c6, M2, b2, rfl, hbs2, hbest2, -⟩, hB⟩
  replace hX := hX.trans (hB.mono hX.size)
  obtain ⟨sb2, hsb2, hsbM2⟩ := hbest2.cnt (by have := HCR.out; omega)
  have kK2 := chkV_ok hbest2.full.len hsb2 HX1.out _ _ V6 (HKSL.out V6 hX) hbs2
  rw [hsbM2] at kK2
  have hM2 : M2 ≤ M := by
    have h := hbest2.le (by have := HCR.out; omega) HBEST.out.full.len (pack_more (by omega) _ _ HSB.out.1)
    rw [HSB.out.2] at h
    exact h
  have HM2 := Lib.hid hM2
  clear kL2 hB hbs2 hbest2 hsb2 hsbM2 hM2
  go_wp2_with fail
  refine kK2.mono ?_
  rintro e V7 ⟨rfl, hB⟩
  replace hX := hX.trans (hB.mono hX.size)
  clear kK2 hB
  have d1 : decide ((M : Int) < fw) = false := decide_eq_false (by have := HFEW.out; omega)
  have d2 : decide (l.length < M) = false := decide_eq_false (by have := HML.out; omega)
  have d3 : decide (M < M2) = false := decide_eq_false (by have := HM2.out; omega)
  have d4 : decide ((l.length : Int) < (M : Int)) = false := decide_eq_false (by have := HML.out; omega)
  have d5 : decide ((M : Int) < (M2 : Int)) = false := decide_eq_false (by have := HM2.out; omega)
  clear wc1 wc2
  go_wp2_with fail
  clear d1 d2 d3 d4 d5
  have hR0 := R3.nil V7 w1.heap.size
  go_loopw [16, 17, 18, 116] (fun nv rv pv iv wr => ∃ (k : Nat) (ns : List Int) (s : List LoadT), k ≤ l.length ∧ iv = .int .i64 k ∧ ns.length = k ∧ packP cp l ns = (0, s) ∧ s.length ≤ k ∧ (∀ o ∈ s, 0 ≤ o.2 ∧ o.2 ≤ cp) ∧ R3 wr w1.heap.size nv rv pv ns (roomsL cp s) (progsL s) ∧ Below w1.heap.size w1 wr) (fun _ _ _ iv _ => l.length - (intOf iv).toNat)
  case atStart => exact ⟨0, [], [], Nat.zero_le _, rfl, rfl, rfl, Nat.le_refl _, fun o h => by simp at h, hR0, hX⟩
  case round =>
    clear hR0 hX
    obtain ⟨k, ns, s, hk, rfl, hnl, hpk, hsk, hsb, hR, hX⟩ := hrel
    rename World => v2
    obtain ⟨An, cn, hnv⟩ := hR.n.sl.form
    obtain ⟨Ar, cr, hrv⟩ := hR.r.sl.form
    obtain ⟨Ap, cq, hpv⟩ := (hR.p.sl encS_len).form
    rw [hnl] at hnv
    rw [roomsL_len] at hrv
    rw [progsL_len] at hpv
    subst hnv hrv hpv
    have HNL := Lib.hid hnl
    have HSK := Lib.hid hsk
    have HSB2 := Lib.hid hsb
    have HPK := Lib.hid hpk
    clear hnl hsk hsb hpk
    rcases Nat.lt_or_eq_of_le hk with hkn | rfl
    · obtain ⟨⟨nm, pr, sz⟩, hxk⟩ : ∃ x, l[k]? = some x := ⟨_, List.getElem?_eq_getElem hkn⟩
      obtain ⟨bu, ou, rfl, -, hbu, r0, r1, r2⟩ := ite_cells (HKSU.out v2 hX) hxk
      dsimp only at r0 r1 r2
      have hxb := HOK.out.at_ _ (List.mem_of_getElem? hxk)
      dsimp only at hxb
      have HXB := Lib.hid hxb
      have hps : ∀ n, packP cp l (ns ++ [n]) = stepL cp (0, s) (nm, pr, sz) n := fun n => by
        rw [pack_snoc (x := (nm, pr, sz)) (by rw [HNL.out]; exact hxk), HPK.out]
      have HPS := Lib.hid hps
      obtain ⟨W1, hW1⟩ : ∃ W1, W1 = v2.alloc (.cells #[.string nm, .string pr, .int .i64 sz] 46) := ⟨_, rfl⟩
      have rb : RowK W1 46 v2.heap.size [.string nm, .string pr, .int .i64 sz] := by subst hW1; exact heap_alloc_new v2 _
      have hB1 : Below v2.heap.size v2 W1 := by subst hW1; exact (Below.refl _ _).alloc (Nat.le_refl _) _
      have hXW := hX.trans (hB1.mono hX.size)
      have hRW := hR.below hB1
      have hBXw : w1.heap.size ≤ v2.heap.size := hX.size
      have hBXl : ∀ g, ((Value.slice An k cn).ownBlock = some g ∨ (Value.slice Ar s.length cr).ownBlock = some g ∨ (Value.slice Ap s.length cq).ownBlock = some g) → g < v2.heap.size := fun g e => by
        rcases e with e | e | e
        · exact (hR.n.lt g e).2
        · exact (hR.r.lt g e).2
        · exact (hR.p.lt g e).2
      obtain ⟨BX, hBX⟩ : ∃ BX, BX = v2.heap.size := ⟨_, rfl⟩
      rw [← hBX] at rb hBXl
      have HRB := Lib.hid rb
      have HRW := Lib.hid hRW
      have HXW := Lib.hid hXW
      have HBXL := Lib.hid hBXl
      have HW1 := Lib.hid (And.intro hW1 hBX)
      have hk0 : (0 : Int) ≤ k := by omega
      have hk1 : (k : Int) < l.length := by omega
      have HK := Lib.hid (show k + 1 ≤ l.length from hkn)
      have HM := Lib.hid (show l.length - (k + 1) < l.length - k by omega)
      have HWK := Lib.hid (wrapsLQ (show k < 1048576 by have := HL6.out; omega))
      clear hxk hxb hps rb hB1 hXW hRW hBXl hW1 hBX hR hX hBXw
      go_wp2_with fail
      rw [← HW1.out.1, ← HW1.out.2]
      clear r0 r1 r2
      have hY0 := Below.refl W1.heap.size W1
      obtain ⟨x, hxe⟩ : ∃ x : ItemT, x = (nm, pr, sz) := ⟨_, rfl⟩
      have HXE := Lib.hid hxe
      clear hxe
      go_loopw [21, 124] (fun av iv wr => ∃ q : Nat, q ≤ s.length ∧ iv = .int .i64 q ∧ av = .int .i64 (fitK cp s x q : Nat) ∧ Below W1.heap.size W1 wr) (fun _ iv _ => s.length - (intOf iv).toNat)
      case atStart => exact ⟨0, Nat.zero_le _, rfl, rfl, hY0⟩
      case round =>
        clear hY0
        obtain ⟨q, hq, rfl, rfl, hY⟩ := hrel
        rename World => v3
        rcases Nat.lt_or_eq_of_le hq with hqn | rfl
        · obtain ⟨o, ho⟩ : ∃ o, s[q]? = some o := ⟨_, List.getElem?_eq_getElem hqn⟩
          have hfs := fitK_succ (cap := cp) (x := x) (s := s) (k := q) (o := o) ho
          have hob := HSB2.out o (List.mem_of_getElem? ho)
          obtain ⟨g1, c1, e1, -, hg1, p1, -⟩ := int_cell (HRW.out.r.keep hY) (roomsL_get (cp := cp) ho)
          obtain ⟨g2, c2, e2, -, hg2, p2⟩ := str_cell (HRW.out.p.keep hY) (progsL_get ho)
          injection e1 with e1 e1b e1c
          injection e2 with e2 e2b e2c
          subst e1 e1c e2 e2c
          clear e1b e2b
          have rbY := HRB.out.below hY
          have y1 : v3.cell? ⟨BX, 1, none⟩ = some (.string pr) := rbY.cell (i := 1) rfl
          have y2 : v3.cell? ⟨BX, 2, none⟩ = some (.int .i64 sz) := rbY.cell (i := 2) rfl
          obtain ⟨op, oz⟩ := o
          dsimp only at p1 p2 hob
          rw [HXE.out] at hfs
          have hfs2 : ∀ f, f = fitK cp s x q → (f = s.length ∧ (op = pr ∧ sz ≤ cp - oz) ∧ fitK cp s x (q + 1) = q) ∨ (¬ (f = s.length ∧ (op = pr ∧ sz ≤ cp - oz)) ∧ fitK cp s x (q + 1) = f) := fun f hf => by
            rw [hf, HXE.out]
            exact hfs
          obtain ⟨f, hf⟩ : ∃ f, f = fitK cp s x q := ⟨_, rfl⟩
          have HFS := Lib.hid (hfs2 f hf)
          rw [← hf]
          have hq0 : (0 : Int) ≤ q := by omega
          have hq1 : (q : Int) < s.length := by omega
          have HQK := Lib.hid (show q + 1 ≤ s.length from hqn)
          have HQM := Lib.hid (show s.length - (q + 1) < s.length - q by omega)
          have HQW := Lib.hid (wrapsLQ (show q < 1048576 by have := HSK.out; have := HL6.out; omega))
          have HY := Lib.hid hY
          clear hfs hfs2 hf ho hg1 hg2 rbY hob hY hqn hq
          by_cases hfe : f = s.length
          case neg =>
            have hfb : ((f : Int) == (s.length : Int)) = false := by simp; omega
            have HF : RowKit.Hid (fitK cp s x (q + 1) = f) := Lib.hid (by
              rcases HFS.out with ⟨h, -⟩ | ⟨-, h⟩
              · exact absurd h hfe
              · exact h)
            go_wp2_with fail
            go_quiet (fail)
            obtain ⟨wk1, wk2⟩ := HQW.out
            go_wp2_with fail
            go_roundw
            case rel => exact ⟨q + 1, HQK.out, by simp, by rw [HF.out], below_drewN HY.out _⟩
            case measure => exact HQM.out
          case pos =>
            have hfb : ((f : Int) == (s.length : Int)) = true := by simp [hfe]
            obtain ⟨zb, hzb⟩ : ∃ zb, (op.toList == pr.toList) = zb := ⟨_, rfl⟩
            have HZB := Lib.hid hzb
            cases zb with
            | false =>
              have HF : RowKit.Hid (fitK cp s x (q + 1) = f) := Lib.hid (by
                rcases HFS.out with ⟨-, ⟨h, -⟩, -⟩ | ⟨-, h⟩
                · have := HZB.out
                  rw [h] at this
                  simp at this
                · exact h)
              clear hfe
              go_wp2_with fail
              go_quiet (fail)
              obtain ⟨wk1, wk2⟩ := HQW.out
              go_wp2_with fail
              go_roundw
              case rel => exact ⟨q + 1, HQK.out, by simp, by rw [HF.out], below_drewN HY.out _⟩
              case measure => exact HQM.out
            | true =>
              obtain ⟨zc, hzc⟩ : ∃ zc, decide (sz ≤ cp - oz) = zc := ⟨_, rfl⟩
              have HZC := Lib.hid hzc
              cases zc with
              | false =>
                have HF : RowKit.Hid (fitK cp s x (q + 1) = f) := Lib.hid (by
                  rcases HFS.out with ⟨-, ⟨-, h⟩, -⟩ | ⟨-, h⟩
                  · exact absurd h (of_decide_eq_false HZC.out)
                  · exact h)
                clear hfe
                go_wp2_with fail
                go_quiet (fail)
                obtain ⟨wk1, wk2⟩ := HQW.out
                go_wp2_with fail
                go_roundw
                case rel => exact ⟨q + 1, HQK.out, by simp, by rw [HF.out], below_drewN HY.out _⟩
                case measure => exact HQM.out
              | true =>
                have HF : RowKit.Hid (fitK cp s x (q + 1) = q) := Lib.hid (by
                  rcases HFS.out with ⟨-, -, h⟩ | ⟨h, -⟩
                  · exact h
                  · refine absurd ⟨hfe, ?_, of_decide_eq_true HZC.out⟩ h
                    apply Classical.byContradiction
                    intro h
                    have := HZB.out
                    rw [bytes_ne h] at this
                    cases this)
                clear hfe
                go_wp2_with fail
                go_quiet (fail)
                obtain ⟨wk1, wk2⟩ := HQW.out
                go_wp2_with fail
                go_roundw
                case rel => exact ⟨q + 1, HQK.out, by simp, by rw [HF.out], below_drewN HY.out _⟩
                case measure => exact HQM.out
        · obtain ⟨f, hf⟩ : ∃ f, f = fitK cp s x s.length := ⟨_, rfl⟩
          rw [← hf]
          obtain ⟨hfl, o1, ho1, hop, hosz, hstep, hgrow⟩ := fit_facts (cp := cp) (s := s) (x := x) (by rw [HXE.out]; exact HXB.out.2) hf
          rw [HXE.out] at ho1 hop hosz hstep hgrow
          dsimp only at hop hosz hstep hgrow
          obtain ⟨gq, hgq⟩ : ∃ gq, gq = growL s (nm, pr, sz) (f : Int) := ⟨_, rfl⟩
          rw [← hgq] at ho1 hstep hgrow
          have HO1 := Lib.hid (And.intro ho1 (And.intro hop (And.intro hosz (And.intro hstep (And.intro hgrow hfl)))))
          clear hf hgq
          go_upto_if 154 with fail
          go_cut [17, 18, 116] from 116 to 176 (fun rv pv iv wx => iv = .int .i64 k ∧ (∃ A c A2 c2, rv = .slice A gq.length c ∧ pv = .slice A2 gq.length c2) ∧ R3 wx w1.heap.size (.slice An k cn) rv pv ns (roomsL cp gq) (progsL gq) ∧ RowK wx 46 BX [.string nm, .string pr, .int .i64 sz] ∧ Below w1.heap.size w1 wx)
          case first =>
            rcases hgrow with ⟨hfe, hge⟩ | ⟨hfl2, hge⟩
            · have hfb : ((f : Int) == (s.length : Int)) = true := by simp [hfe]
              have hYv : Below w1.heap.size w1 v3 := HXW.out.trans (hY.mono HXW.out.size)
              have R0 := HRW.out.below hY
              have rX := HRB.out.below hY
              have hBl : BX < v3.heap.size := rX.lt
              have hnr : (Value.slice Ar s.length cr).ownBlock ≠ some BX := fun e => by have := HBXL.out BX (.inr (.inl e)); omega
              have hnp : (Value.slice Ap s.length cq).ownBlock ≠ some BX := fun e => by have := HBXL.out BX (.inr (.inr e)); omega
              have hls : s.length ≤ 1000 := by have := HSK.out; have := HL6.out; omega
              obtain ⟨Wa, hWa⟩ : ∃ Wa, Wa = (v3.alloc (.cells #[.int .i64 cp] 3)).drew := ⟨_, rfl⟩
              have hBa : Below v3.heap.size v3 Wa := by rw [hWa]; exact ((Below.refl v3.heap.size v3).alloc (Nat.le_refl _) _).drew
              have hra : RowK Wa 3 v3.heap.size [.int .i64 cp] := by rw [hWa]; exact heap_alloc_new v3 _
              have hXa := hYv.trans (hBa.mono hYv.size)
              have rXa := rX.below hBa
              have R0a := R0.below hBa
              -- the room first, then the program
              obtain ⟨A1, c1, wb, hap1, hR1, hg1, hb1⟩ := R0a.appR hra (by rw [roomsL_len]; exact hls) hXa.size
              have hXb := hXa.trans hb1
              have rXb := rowK_grown rXa hg1 hnr
              obtain ⟨Wc, hWc⟩ : ∃ Wc, Wc = wb.alloc (.cells #[.string pr] 9) := ⟨_, rfl⟩
              have hBc : Below wb.heap.size wb Wc := by rw [hWc]; exact (Below.refl _ _).alloc (Nat.le_refl _) _
              have hrc : RowK Wc 9 wb.heap.size [.string pr] := by rw [hWc]; exact heap_alloc_new wb _
              have hXc := hXb.trans (hBc.mono hXb.size)
              have rXc := rXb.below hBc
              obtain ⟨A2, c2, wd, hap2, hR2, hg2, hb2⟩ := (hR1.below hBc).appP hrc (by rw [progsL_len]; exact hls) hXc.size
              have hXd := hXc.trans hb2
              have rXd := rowK_grown rXc hg2 hnp
              -- both rows, then the room, then the program
              obtain ⟨We, hWe⟩ : ∃ We, We = Wa.alloc (.cells #[.string pr] 9) := ⟨_, rfl⟩
              have hBe : Below Wa.heap.size Wa We := by rw [hWe]; exact (Below.refl _ _).alloc (Nat.le_refl _) _
              have hre : RowK We 9 Wa.heap.size [.string pr] := by rw [hWe]; exact heap_alloc_new Wa _
              have hXe := hXa.trans (hBe.mono hXa.size)
              have rXe := rXa.below hBe
              obtain ⟨A3', c3', wf, hap3, hR3, hg3, hb3⟩ := (R0a.below hBe).appR (hra.below hBe) (by rw [roomsL_len]; exact hls) hXe.size
              have hXf := hXe.trans hb3
              have rXf := rowK_grown rXe hg3 hnr
              have hrf := rowK_grown hre hg3 (fun e => by have := HBXL.out _ (.inr (.inl e)); have := hBa.size; omega)
              obtain ⟨A4, c4, wg, hap4, hR4, hg4, hb4⟩ := hR3.appP hrf (by rw [progsL_len]; exact hls) hXf.size
              have hXg := hXf.trans hb4
              have rXg := rowK_grown rXf hg4 hnp
              -- the other row first
              obtain ⟨Wh, hWh⟩ : ∃ Wh, Wh = (v3.alloc (.cells #[.string pr] 9)).drew := ⟨_, rfl⟩
              have hBh : Below v3.heap.size v3 Wh := by rw [hWh]; exact ((Below.refl v3.heap.size v3).alloc (Nat.le_refl _) _).drew
              have hrh : RowK Wh 9 v3.heap.size [.string pr] := by rw [hWh]; exact heap_alloc_new v3 _
              have hXh := hYv.trans (hBh.mono hYv.size)
              have rXh := rX.below hBh
              obtain ⟨Wi, hWi⟩ : ∃ Wi, Wi = Wh.alloc (.cells #[.int .i64 cp] 3) := ⟨_, rfl⟩
              have hBi : Below Wh.heap.size Wh Wi := by rw [hWi]; exact (Below.refl _ _).alloc (Nat.le_refl _) _
              have hri : RowK Wi 3 Wh.heap.size [.int .i64 cp] := by rw [hWi]; exact heap_alloc_new Wh _
              have hXi := hXh.trans (hBi.mono hXh.size)
              have rXi := rXh.below hBi
              obtain ⟨A5, c5, wj, hap5, hR5, hg5, hb5⟩ := ((R0.below hBh).below hBi).appR hri (by rw [roomsL_len]; exact hls) hXi.size
              have hXj := hXi.trans hb5
              have rXj := rowK_grown rXi hg5 hnr
              have hrj := rowK_grown (hrh.below hBi) hg5 (fun e => by have := HBXL.out _ (.inr (.inl e)); omega)
              obtain ⟨A6', c6', wk, hap6, hR6, hg6, hb6'⟩ := hR5.appP hrj (by rw [progsL_len]; exact hls) hXj.size
              have hXk := hXj.trans hb6'
              have rXk := rowK_grown rXj hg6 hnp
              rw [roomsL_len] at hap1 hap3 hap5 hR2 hR4 hR6
              rw [progsL_len] at hap2 hap4 hap6 hR2 hR4 hR6
              rw [← roomsL_app, ← progsL_app, ← hge] at hR2 hR4 hR6
              have HAP1 := Lib.hid hap1
              have HAP2 := Lib.hid hap2
              have HAP3 := Lib.hid hap3
              have HAP4 := Lib.hid hap4
              have HAP5 := Lib.hid hap5
              have HAP6 := Lib.hid hap6
              have HR2 := Lib.hid (And.intro hR2 (And.intro rXd hXd))
              have HR4 := Lib.hid (And.intro hR4 (And.intro rXg hXg))
              have HR6 := Lib.hid (And.intro hR6 (And.intro rXk hXk))
              have sa : Wa.cell? ⟨BX, 1, none⟩ = some (.string pr) := rXa.cell (i := 1) rfl
              have sb' : wb.cell? ⟨BX, 1, none⟩ = some (.string pr) := rXb.cell (i := 1) rfl
              have sc : Wc.cell? ⟨BX, 1, none⟩ = some (.string pr) := rXc.cell (i := 1) rfl
              have sd : wd.cell? ⟨BX, 1, none⟩ = some (.string pr) := rXd.cell (i := 1) rfl
              have se : We.cell? ⟨BX, 1, none⟩ = some (.string pr) := rXe.cell (i := 1) rfl
              have sf : wf.cell? ⟨BX, 1, none⟩ = some (.string pr) := rXf.cell (i := 1) rfl
              have sg : wg.cell? ⟨BX, 1, none⟩ = some (.string pr) := rXg.cell (i := 1) rfl
              have sh : Wh.cell? ⟨BX, 1, none⟩ = some (.string pr) := rXh.cell (i := 1) rfl
              have si : Wi.cell? ⟨BX, 1, none⟩ = some (.string pr) := rXi.cell (i := 1) rfl
              have sj : wj.cell? ⟨BX, 1, none⟩ = some (.string pr) := rXj.cell (i := 1) rfl
              have sk : wk.cell? ⟨BX, 1, none⟩ = some (.string pr) := rXk.cell (i := 1) rfl
              have hky : v3.drew.cell? ⟨BX, 1, none⟩ = some (.string pr) := rX.cell (i := 1) rfl
              have HS := Lib.hid (And.intro sa (And.intro sb' (And.intro sc (And.intro sd (And.intro se (And.intro sf (And.intro sg (And.intro sh (And.intro si (And.intro sj sk))))))))))
              have HWS := Lib.hid (And.intro hWa (And.intro hWc (And.intro hWe (And.intro hWh hWi))))
              have HGL := Lib.hid (show gq.length = s.length + 1 by rw [hge]; simp)
              clear hYv R0 rX hBl hnr hnp hls hWa hBa hra hXa rXa R0a hap1 hR1 hg1 hb1 hXb rXb hWc hBc hrc hXc rXc hap2 hR2 hg2 hb2 hXd rXd hWe hBe hre hXe rXe hap3 hR3 hg3 hb3 hXf rXf hrf hap4 hR4 hg4 hb4 hXg rXg hWh hBh hrh hXh rXh hWi hBi hri hXi rXi hap5 hR5 hg5 hb5 hXj rXj hrj hap6 hR6 hg6 hb6' hXk rXk sa sb' sc sd se sf sg sh si sj sk hge ho1 hstep hop hosz hfl hY hq
              clear hfe
              go_wp2_with fail
              refine wp_region_held_drew (S := fun V => V.cell? ⟨BX, 1, none⟩ = some (.string pr)) (by kernel_rfl) hky (fun hHeld => ?_)
              refine held_yes 0 (some 155) (.slice Ar s.length cr) rfl rfl (by kernel_rfl) (by kernel_rfl) (by kernel_rfl) (fun _ _ _ h => h) rfl (fun w' hS => by skip; go_simp) hHeld ?_
              try simp only [Act.put, List.setIfInBounds_toArray, List.set_cons_zero, List.set_cons_succ]
              refine held_yes 1 (some 156) (.int .i64 cp) rfl rfl (by kernel_rfl) (by kernel_rfl) (by kernel_rfl) (fun _ _ _ h => h) rfl (fun w' hS => by skip; go_simp) hHeld ?_
              try simp only [Act.put, List.setIfInBounds_toArray, List.set_cons_zero, List.set_cons_succ]
              refine held_yes 4 (some 159) (.slice Ap s.length cq) rfl rfl (by kernel_rfl) (by kernel_rfl) (by kernel_rfl) (fun _ _ _ h => h) rfl (fun w' hS => by skip; go_simp) hHeld ?_
              try simp only [Act.put, List.setIfInBounds_toArray, List.set_cons_zero, List.set_cons_succ]
              refine held_yes 5 (some 160) (.pointer (some ⟨BX, 1, none⟩)) rfl rfl (by kernel_rfl) (by kernel_rfl) (by kernel_rfl) (fun _ _ _ h => h) rfl (fun w' hS => by skip; go_simp) hHeld ?_
              try simp only [Act.put, List.setIfInBounds_toArray, List.set_cons_zero, List.set_cons_succ]
              refine held_yes 6 (some 161) (.string pr) rfl rfl (by kernel_rfl) (by kernel_rfl) (by kernel_rfl) (fun _ _ _ h => h) rfl (fun w' hS => by skip; go_simp) hHeld ?_
              try simp only [Act.put, List.setIfInBounds_toArray, List.set_cons_zero, List.set_cons_succ]
              refine wpAnyH_ready (rs := [2, 7]) (by kernel_rfl) (by simp) ?_
              refine AllReadyH.cons rfl (fun K hK => ?_) (AllReadyH.cons rfl (fun K hK => ?_) AllReadyH.nil)
              · go_simp
                rw [← HWS.out.1]
                refine hK.out _ _ HS.out.1 (fun hHeld => ?_)
                clear hK K
                try simp only [Act.put, List.setIfInBounds_toArray, List.set_cons_zero, List.set_cons_succ]
                refine wpAnyH_ready (rs := [3, 7]) (by kernel_rfl) (by simp) ?_
                refine AllReadyH.cons rfl (fun K hK => ?_) (AllReadyH.cons rfl (fun K hK => ?_) AllReadyH.nil)
                · refine step_appD (w' := wb) rfl (.tmp 155) (.tmp 157) _ rfl (.slice Ar s.length cr) (.slice (some ⟨v3.heap.size, 0, none⟩) 1 1) (.slice A1 (s.length + 1) c1) (by rfl) (by rfl) HAP1.out (some 158) rfl ?_
                  refine hK.out _ _ HS.out.2.1 (fun hHeld => ?_)
                  clear hK K
                  try simp only [Act.put, List.setIfInBounds_toArray, List.set_cons_zero, List.set_cons_succ]
                  refine wpAnyH_ready (rs := [7]) (by kernel_rfl) (by simp) ?_
                  refine AllReadyH.cons rfl (fun K hK => ?_) AllReadyH.nil
                  go_simp
                  rw [← HWS.out.2.1]
                  refine hK.out _ _ HS.out.2.2.1 (fun hHeld => ?_)
                  clear hK K
                  try simp only [Act.put, List.setIfInBounds_toArray, List.set_cons_zero, List.set_cons_succ]
                  refine wpAnyH_ready (rs := [8]) (by kernel_rfl) (by simp) ?_
                  refine AllReadyH.cons rfl (fun K hK => ?_) AllReadyH.nil
                  refine step_appD (w' := wd) rfl (.tmp 159) (.tmp 162) _ rfl (.slice Ap s.length cq) (.slice (some ⟨wb.heap.size, 0, none⟩) 1 1) (.slice A2 (s.length + 1) c2) (by rfl) (by rfl) HAP2.out (some 163) rfl ?_
                  refine hK.out _ _ HS.out.2.2.2.1 (fun hHeld => ?_)
                  clear hK K
                  try simp only [Act.put, List.setIfInBounds_toArray, List.set_cons_zero, List.set_cons_succ]
                  refine held_yes 9 (some 17) (.slice A1 (s.length + 1) c1) rfl rfl (by kernel_rfl) (by kernel_rfl) (by kernel_rfl) (fun _ _ _ h => h) rfl (fun w' hS => by skip; go_simp) hHeld ?_
                  try simp only [Act.put, List.setIfInBounds_toArray, List.set_cons_zero, List.set_cons_succ]
                  refine held_yes 10 (some 18) (.slice A2 (s.length + 1) c2) rfl rfl (by kernel_rfl) (by kernel_rfl) (by kernel_rfl) (fun _ _ _ h => h) rfl (fun w' hS => by skip; go_simp) hHeld ?_
                  try simp only [Act.put, List.setIfInBounds_toArray, List.set_cons_zero, List.set_cons_succ]
                  refine wpAnyH_done (by kernel_rfl) ?_ _
                  clear hHeld
                  go_wp2_with fail
                  try simp only [Act.put, List.setIfInBounds_toArray, List.set_cons_zero, List.set_cons_succ]
                  go_meet
                  case rel => exact ⟨rfl, ⟨_, _, _, _, by rw [HGL.out], by rw [HGL.out]⟩, HR2.out.1, HR2.out.2.1, HR2.out.2.2⟩
                · go_simp
                  rw [← HWS.out.2.2.1]
                  refine hK.out _ _ HS.out.2.2.2.2.1 (fun hHeld => ?_)
                  clear hK K
                  try simp only [Act.put, List.setIfInBounds_toArray, List.set_cons_zero, List.set_cons_succ]
                  refine wpAnyH_ready (rs := [3]) (by kernel_rfl) (by simp) ?_
                  refine AllReadyH.cons rfl (fun K hK => ?_) AllReadyH.nil
                  refine step_appD (w' := wf) rfl (.tmp 155) (.tmp 157) _ rfl (.slice Ar s.length cr) (.slice (some ⟨v3.heap.size, 0, none⟩) 1 1) (.slice A3' (s.length + 1) c3') (by rfl) (by rfl) HAP3.out (some 158) rfl ?_
                  refine hK.out _ _ HS.out.2.2.2.2.2.1 (fun hHeld => ?_)
                  clear hK K
                  try simp only [Act.put, List.setIfInBounds_toArray, List.set_cons_zero, List.set_cons_succ]
                  refine wpAnyH_ready (rs := [8]) (by kernel_rfl) (by simp) ?_
                  refine AllReadyH.cons rfl (fun K hK => ?_) AllReadyH.nil
                  refine step_appD (w' := wg) rfl (.tmp 159) (.tmp 162) _ rfl (.slice Ap s.length cq) (.slice (some ⟨Wa.heap.size, 0, none⟩) 1 1) (.slice A4 (s.length + 1) c4) (by rfl) (by rfl) HAP4.out (some 163) rfl ?_
                  refine hK.out _ _ HS.out.2.2.2.2.2.2.1 (fun hHeld => ?_)
                  clear hK K
                  try simp only [Act.put, List.setIfInBounds_toArray, List.set_cons_zero, List.set_cons_succ]
                  refine held_yes 9 (some 17) (.slice A3' (s.length + 1) c3') rfl rfl (by kernel_rfl) (by kernel_rfl) (by kernel_rfl) (fun _ _ _ h => h) rfl (fun w' hS => by skip; go_simp) hHeld ?_
                  try simp only [Act.put, List.setIfInBounds_toArray, List.set_cons_zero, List.set_cons_succ]
                  refine held_yes 10 (some 18) (.slice A4 (s.length + 1) c4) rfl rfl (by kernel_rfl) (by kernel_rfl) (by kernel_rfl) (fun _ _ _ h => h) rfl (fun w' hS => by skip; go_simp) hHeld ?_
                  try simp only [Act.put, List.setIfInBounds_toArray, List.set_cons_zero, List.set_cons_succ]
                  refine wpAnyH_done (by kernel_rfl) ?_ _
                  clear hHeld
                  go_wp2_with fail
                  try simp only [Act.put, List.setIfInBounds_toArray, List.set_cons_zero, List.set_cons_succ]
                  go_meet
                  case rel => exact ⟨rfl, ⟨_, _, _, _, by rw [HGL.out], by rw [HGL.out]⟩, HR4.out.1, HR4.out.2.1, HR4.out.2.2⟩
              · go_simp
                rw [← HWS.out.2.2.2.1]
                refine hK.out _ _ HS.out.2.2.2.2.2.2.2.1 (fun hHeld => ?_)
                clear hK K
                try simp only [Act.put, List.setIfInBounds_toArray, List.set_cons_zero, List.set_cons_succ]
                refine wpAnyH_ready (rs := [2]) (by kernel_rfl) (by simp) ?_
                refine AllReadyH.cons rfl (fun K hK => ?_) AllReadyH.nil
                go_simp
                rw [← HWS.out.2.2.2.2]
                refine hK.out _ _ HS.out.2.2.2.2.2.2.2.2.1 (fun hHeld => ?_)
                clear hK K
                try simp only [Act.put, List.setIfInBounds_toArray, List.set_cons_zero, List.set_cons_succ]
                refine wpAnyH_ready (rs := [3]) (by kernel_rfl) (by simp) ?_
                refine AllReadyH.cons rfl (fun K hK => ?_) AllReadyH.nil
                refine step_appD (w' := wj) rfl (.tmp 155) (.tmp 157) _ rfl (.slice Ar s.length cr) (.slice (some ⟨Wh.heap.size, 0, none⟩) 1 1) (.slice A5 (s.length + 1) c5) (by rfl) (by rfl) HAP5.out (some 158) rfl ?_
                refine hK.out _ _ HS.out.2.2.2.2.2.2.2.2.2.1 (fun hHeld => ?_)
                clear hK K
                try simp only [Act.put, List.setIfInBounds_toArray, List.set_cons_zero, List.set_cons_succ]
                refine wpAnyH_ready (rs := [8]) (by kernel_rfl) (by simp) ?_
                refine AllReadyH.cons rfl (fun K hK => ?_) AllReadyH.nil
                refine step_appD (w' := wk) rfl (.tmp 159) (.tmp 162) _ rfl (.slice Ap s.length cq) (.slice (some ⟨v3.heap.size, 0, none⟩) 1 1) (.slice A6' (s.length + 1) c6') (by rfl) (by rfl) HAP6.out (some 163) rfl ?_
                refine hK.out _ _ HS.out.2.2.2.2.2.2.2.2.2.2 (fun hHeld => ?_)
                clear hK K
                try simp only [Act.put, List.setIfInBounds_toArray, List.set_cons_zero, List.set_cons_succ]
                refine held_yes 9 (some 17) (.slice A5 (s.length + 1) c5) rfl rfl (by kernel_rfl) (by kernel_rfl) (by kernel_rfl) (fun _ _ _ h => h) rfl (fun w' hS => by skip; go_simp) hHeld ?_
                try simp only [Act.put, List.setIfInBounds_toArray, List.set_cons_zero, List.set_cons_succ]
                refine held_yes 10 (some 18) (.slice A6' (s.length + 1) c6') rfl rfl (by kernel_rfl) (by kernel_rfl) (by kernel_rfl) (fun _ _ _ h => h) rfl (fun w' hS => by skip; go_simp) hHeld ?_
                try simp only [Act.put, List.setIfInBounds_toArray, List.set_cons_zero, List.set_cons_succ]
                refine wpAnyH_done (by kernel_rfl) ?_ _
                clear hHeld
                go_wp2_with fail
                try simp only [Act.put, List.setIfInBounds_toArray, List.set_cons_zero, List.set_cons_succ]
                go_meet
                case rel => exact ⟨rfl, ⟨_, _, _, _, by rw [HGL.out], by rw [HGL.out]⟩, HR6.out.1, HR6.out.2.1, HR6.out.2.2⟩
            · have hfb : ((f : Int) == (s.length : Int)) = false := by simp; omega
              have HR9 := Lib.hid (And.intro (HRW.out.below hY) (And.intro (HRB.out.below hY) (HXW.out.trans (hY.mono HXW.out.size))))
              have HGE := Lib.hid hge
              clear hfl2 hge ho1 hstep hop hosz hfl hY hq
              go_wp2_with fail
              go_meet
              case rel => exact ⟨rfl, ⟨_, _, _, _, by rw [HGE.out], by rw [HGE.out]⟩, by rw [HGE.out]; exact HR9.out.1, HR9.out.2.1, HR9.out.2.2⟩
          case rest =>
            obtain ⟨rfl, ⟨A17, c17, A18, c18, rfl, rfl⟩, hR', hrow', hX'⟩ := hcut
            clear hgrow ho1 hop hosz hstep hfl hY hq
            obtain ⟨ho1, hop, hosz, hstep, hgrow, hfl⟩ := HO1.out
            obtain ⟨op1, oz1⟩ := o1
            dsimp only at hop hosz hstep
            have hgs : ∀ o ∈ gq, 0 ≤ o.2 ∧ o.2 ≤ cp := fun o ho => by
              rcases hgrow with ⟨-, h⟩ | ⟨-, h⟩
              · rw [h] at ho
                rcases List.mem_append.1 ho with h2 | h2
                · exact HSB2.out o h2
                · obtain rfl : o = (pr, 0) := by simpa using h2
                  exact ⟨Int.le_refl _, by have := HCR.out; show (0 : Int) ≤ cp; omega⟩
              · rw [h] at ho
                exact HSB2.out o ho
            have hob := hgs _ (List.mem_of_getElem? ho1)
            dsimp only at hob
            have hgl : gq.length ≤ k + 1 := by
              rcases hgrow with ⟨-, h⟩ | ⟨-, h⟩
              · rw [h, List.length_append, List.length_singleton]; have := HSK.out; omega
              · rw [h]; have := HSK.out; omega
            have hflg : f < gq.length := (List.getElem?_eq_some_iff.1 ho1).1
            obtain ⟨L1, hL1⟩ : ∃ L1, L1 = gq.length := ⟨_, rfl⟩
            rw [← hL1] at hR' ⊢
            obtain ⟨g17, c1, e1, hgB, hg17, p17, fz17⟩ := int_cell hR'.r (roomsL_get (cp := cp) ho1)
            injection e1 with e1 e1b e1c
            subst e1 e1c
            clear e1b
            obtain ⟨rm, hrm⟩ : ∃ rm, rm = cp - oz1 := ⟨_, rfl⟩
            dsimp only at p17
            rw [← hrm] at p17
            have hxb := HXB.out
            have hcr := HCR.out
            have ws1 : wrap64 (rm - sz) = rm - sz := wrap64_small (by omega)
            have ws2 : IntKind.i64.wrap (rm - sz) = rm - sz := wrap_small (by omega)
            have hne : BX ≠ g17 := fun e => by
              have h1 := hrow'
              have h2 := hR'.r
              rcases h2.2 with ⟨h3, -⟩ | ⟨g', cap', cur, h3, -, h4, -⟩
              · cases h3
              · injection h3 with h3 _ _
                injection h3 with h3
                injection h3 with h3 _
                subst h3
                rw [e] at h1
                unfold RowK at h1
                rw [h1] at h4
                injection h4 with h4
                injection h4 with h5 h6
                exact absurd h6 (by decide)
            have yD : wc.drew.cell? ⟨BX, 2, none⟩ = some (.int .i64 sz) := hrow'.cell (i := 2) rfl
            have pD : wc.drew.cell? ⟨g17, f, none⟩ = some (.int .i64 rm) := p17
            have fzD : ∀ q, wc.drew.frozen? ⟨g17, q, none⟩ = false := fz17
            obtain ⟨W8, hW8⟩ : ∃ W8, W8 = (wc.setCell ⟨g17, f, none⟩ (.int .i64 (rm - sz))).drew := ⟨_, rfl⟩
            have hB8 : Below wc.heap.size (wc.setCell ⟨g17, f, none⟩ (.int .i64 (rm - sz))) W8 := by rw [hW8]; exact (Below.refl _ _).drew
            have y8 : W8.cell? ⟨BX, 2, none⟩ = some (.int .i64 sz) := by
              rw [hW8]
              exact (World.cell?_of_block (a := ⟨BX, 2, none⟩) (Below.heap_setCell wc ⟨g17, f, none⟩ _ BX hne)).trans (hrow'.cell (i := 2) rfl)
            have hst := hR'.r.store (by rw [roomsL_len]; exact hL1) (k := f) (rm - sz)
            have hss : (wc.setCell ⟨g17, f, none⟩ (.int .i64 (rm - sz))).heap.size = wc.heap.size := by simp [World.setCell]
            have hR8 := (hR'.putR hst (grown_set wc g17 f _) (.inl rfl)).below (by rw [hss]; exact hB8)
            have hX8 : Below w1.heap.size w1 W8 := by
              rw [hW8]
              exact (hX'.setCell (p := ⟨g17, f, none⟩) hgB _).drew
            rw [hrm, show cp - oz1 - sz = cp - (oz1 + sz) by omega, ← roomsL_set (pr := pr), ← progsL_set (k := f) (pr := pr) (v := oz1 + sz) ho1 hop] at hR8
            obtain ⟨W9, hW9⟩ : ∃ W9, W9 = W8.alloc (.cells #[.int .i64 f] 3) := ⟨_, rfl⟩
            have hB9 : Below W8.heap.size W8 W9 := by rw [hW9]; exact (Below.refl _ _).alloc (Nat.le_refl _) _
            have hr9 : RowK W9 3 W8.heap.size [.int .i64 f] := by rw [hW9]; exact heap_alloc_new W8 _
            have hX9 := hX8.trans (hB9.mono hX8.size)
            obtain ⟨A16, c16, w10, hap, hR10, hg10, hb10⟩ := (hR8.below hB9).appN hr9 (by have := HNL.out; have := HL6.out; omega) hX9.size
            have hX10 := hX9.trans hb10
            rw [HNL.out] at hap
            have hfin := HPS.out (f : Int)
            rw [hstep] at hfin
            have hbb : ∀ o ∈ gq.set f (pr, oz1 + sz), 0 ≤ o.2 ∧ o.2 ≤ cp := fun o ho => by
              rcases List.mem_or_eq_of_mem_set ho with h | h
              · exact hgs o h
              · rw [h]
                show 0 ≤ oz1 + sz ∧ oz1 + sz ≤ cp
                omega
            have HFIN := Lib.hid (And.intro hfin (And.intro (show (gq.set f (pr, oz1 + sz)).length ≤ k + 1 by rw [List.length_set]; exact hgl) (And.intro hbb (And.intro hR10 hX10))))
            have HNN := Lib.hid (show (ns ++ [(f : Int)]).length = k + 1 by rw [List.length_append, List.length_singleton, HNL.out])
            have HAP := Lib.hid hap
            have HW8 := Lib.hid hW8
            have HW9 := Lib.hid hW9
            have hf0 : (0 : Int) ≤ f := by omega
            have hf1 : (f : Int) < L1 := by omega
            clear hgs hob hgl hflg hL1 hrm hxb hcr hne hW8 hB8 hst hss hR8 hX8 hW9 hB9 hr9 hX9 hap hR10 hg10 hb10 hX10 hfin hbb hgrow ho1 hop hosz hstep hfl hgB hg17 hR' hX' p17 fz17 hrow'
            go_wp2_with fail
            refine wp_region_held_drew (S := fun V => V.cell? ⟨BX, 2, none⟩ = some (.int .i64 sz)) (by kernel_rfl) yD (fun hHeld => ?_)
            refine held_yes 0 (some 164) (.slice (some ⟨g17, 0, none⟩) L1 c17) rfl rfl (by kernel_rfl) (by kernel_rfl) (by kernel_rfl) (fun _ _ _ h => h) rfl (fun w' hS => by skip; go_simp) hHeld ?_
            try simp only [Act.put, List.setIfInBounds_toArray, List.set_cons_zero, List.set_cons_succ]
            refine held_yes 1 (some 165) (.int .i64 f) rfl rfl (by kernel_rfl) (by kernel_rfl) (by kernel_rfl) (fun _ _ _ h => h) rfl (fun w' hS => by skip; go_simp) hHeld ?_
            try simp only [Act.put, List.setIfInBounds_toArray, List.set_cons_zero, List.set_cons_succ]
            refine held_yes 2 (some 166) (.pointer (some ⟨g17, f, none⟩)) rfl rfl (by kernel_rfl) (by kernel_rfl) (by kernel_rfl) (fun _ _ _ h => h) rfl (fun w' hS => by skip; go_simp) hHeld ?_
            try simp only [Act.put, List.setIfInBounds_toArray, List.set_cons_zero, List.set_cons_succ]
            refine held_yes 4 (some 168) (.pointer (some ⟨BX, 2, none⟩)) rfl rfl (by kernel_rfl) (by kernel_rfl) (by kernel_rfl) (fun _ _ _ h => h) rfl (fun w' hS => by skip; go_simp) hHeld ?_
            try simp only [Act.put, List.setIfInBounds_toArray, List.set_cons_zero, List.set_cons_succ]
            refine held_yes 5 (some 169) (.int .i64 sz) rfl rfl (by kernel_rfl) (by kernel_rfl) (by kernel_rfl) (fun _ _ _ h => h) rfl (fun w' hS => by skip; go_simp) hHeld ?_
            try simp only [Act.put, List.setIfInBounds_toArray, List.set_cons_zero, List.set_cons_succ]
            refine wpAnyH_ready (rs := [3]) (by kernel_rfl) (by simp) ?_
            refine AllReadyH.cons rfl (fun K hK => ?_) AllReadyH.nil
            go_simp
            refine hK.out _ _ yD (fun hHeld => ?_)
            clear hK K
            try simp only [Act.put, List.setIfInBounds_toArray, List.set_cons_zero, List.set_cons_succ]
            refine held_yes 6 (some 170) (.int .i64 (rm - sz)) rfl rfl (by kernel_rfl) (by kernel_rfl) (by kernel_rfl) (fun _ _ _ h => h) rfl (fun w' hS => by skip; go_simp) hHeld ?_
            try simp only [Act.put, List.setIfInBounds_toArray, List.set_cons_zero, List.set_cons_succ]
            refine held_yes 7 (some 171) (.pointer (some ⟨g17, f, none⟩)) rfl rfl (by kernel_rfl) (by kernel_rfl) (by kernel_rfl) (fun _ _ _ h => h) rfl (fun w' hS => by skip; go_simp) hHeld ?_
            try simp only [Act.put, List.setIfInBounds_toArray, List.set_cons_zero, List.set_cons_succ]
            refine wpAnyH_ready (rs := [8]) (by kernel_rfl) (by simp) ?_
            refine AllReadyH.cons rfl (fun K hK => ?_) AllReadyH.nil
            go_simp
            rw [← HW8.out]
            refine hK.out _ _ y8 (fun hHeld => ?_)
            clear hK K
            try simp only [Act.put, List.setIfInBounds_toArray, List.set_cons_zero, List.set_cons_succ]
            refine wpAnyH_done (by kernel_rfl) ?_ _
            clear hHeld
            clear yD pD fzD y8 ws1 ws2
            obtain ⟨wk1, wk2⟩ := HWK.out
            go_wp2_with (at_builtin; rw [← HW9.out]; refine Lib.wpList_append_run _ rfl _ _ _ _ rfl _ _ rfl rfl _ _ HAP.out ?_)
            go_roundw
            case rel => exact ⟨k + 1, _, _, HK.out, by simp, HNN.out, HFIN.out.1, HFIN.out.2.1, HFIN.out.2.2.1, by have h := HFIN.out.2.2.2.1; rw [HNL.out] at h; exact h, HFIN.out.2.2.2.2⟩
            case measure => exact HM.out
    · have hnl := HNL.out
      have hX7 := hX
      have kK := chkV_ok hnl HPK.out HX.out _ _ v2 (HKSL.out v2 hX) hR.n.sl
      have hMs : M ≤ s.length := HBEST.out.le (by have := HCR.out; omega) hnl HPK.out
      have d1 : (((s.length : Nat) : Int) == ((s.length : Nat) : Int)) = true := by simp
      have d2 : decide (M ≤ s.length) = true := decide_eq_true hMs
      have d3 : decide ((M : Int) ≤ (s.length : Int)) = true := decide_eq_true (by omega)
      clear hR hnl hMs hk
      go_wp2_with fail
      refine kK.mono ?_
      rintro e V8 ⟨rfl, hB⟩
      have hBo := hBw _ (hX.trans (hB.mono hX.size))
      clear kK hB hX hX7
      go_wp2_with (go_at_call 7; refine (awake9_ok _ (hgk.below hBo)).mono ?_; rintro e w9 ⟨rfl, hQ9⟩)
      go_ret
      exact ⟨rfl, hBo.trans (hQ9.mono hBo.size)⟩
end Go.Proofs
