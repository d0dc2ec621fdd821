/- Loads: the search for the first list. -/
import Derived.Test.YtdiddniddohhgaaGreatDoorPakB
import Derived.WalkMore
namespace Go.Proofs
open Go.RowKit Go.MapKept
set_option maxHeartbeats 16000000
set_option maxRecDepth 1000000
theorem ownI_cap {T : TypeId} {w : World} {B n c : Nat} {A : Option Addr} {l : List Int} (h : OwnI T w B (.slice A n c) l) : n ≤ c := by
  rcases h.2 with ⟨h1, h2⟩ | ⟨g, cap, cur, h1, h2, h3, h4, h5⟩
  · injection h1 with _ h1 h3
    omega
  · injection h1 with _ h1 h6
    omega
theorem slcK_to (A : Option Addr) (c s : Nat) (l : List Int) (hs : s ≤ l.length) (hc : l.length ≤ c) : ∃ (A' : Option Addr) (c' : Nat), (∀ W, (Instr.slice 23 (.slice A l.length c) none (some (.int .i64 s)) none).run Tryz.prog W = .ok (.slice A' s c') W) ∧ s ≤ c' ∧ ∀ W, SlI W (.slice A l.length c) l → SlI W (.slice A' s c') (l.take s) := by
  have hz : ∀ W, (sizeOf (Tryz.prog.elem 23)).run Tryz.prog W = .ok 1 W := fun W => by go_simp
  refine ⟨if c = 0 then A else A.map (·.add 0), c, fun W => ?_, by omega, fun W h => ?_⟩
  · rw [run_slice_h W 23 A l.length c (by kernel_rfl) .i64 (s : Int) (by omega) (by omega), hz]
    simp [Result.andThen, sliced]
  · have hl : (l.take s).length = s := by rw [List.length_take]; omega
    rcases h with ⟨h1, h2⟩ | ⟨a, c2, h1, h2⟩
    · injection h1 with e1 e2 e3
      subst e1 e3 h2
      obtain rfl : s = 0 := by simpa using hs
      exact .inl ⟨by simp, by simp⟩
    · injection h1 with e1 _ e3
      subst e1 e3
      by_cases hn : l = []
      · subst hn
        obtain rfl : s = 0 := by simpa using hs
        by_cases hc0 : c = 0
        · rw [if_pos hc0]
          exact .inr ⟨a, c, rfl, fun h => absurd rfl h⟩
        · rw [if_neg hc0]
          exact .inr ⟨a.add 0, c, rfl, fun h => absurd rfl h⟩
      · obtain ⟨h3, h4, h5⟩ := h2 hn
        obtain ⟨b, o, sp⟩ := a
        obtain rfl : sp = none := h3
        have hc0 : c ≠ 0 := by have := List.length_pos_iff.2 hn; omega
        rw [if_neg hc0]
        refine .inr ⟨⟨b, o, none⟩, c, by rw [hl]; simp [Addr.add], fun _ => ⟨rfl, h4, fun i x hi => h5 i x ?_⟩⟩
        rw [List.getElem?_take] at hi
        split at hi
        · exact hi
        · cases hi
theorem nob_zero {cp : Int} {l : List ItemT} {M : Nat} {p : List Int} {k : Int} (hl : p.length = l.length) (h : NoB cp l M p k) : NoB cp l M p 0 := fun y hy hb => by
  rcases hb with h1 | ⟨-, h2⟩
  · exact h y hy (.inl h1)
  · unfold at0 at h2
    rw [List.getElem?_eq_none (by rw [hl, hy.len]; exact Nat.le_refl _)] at h2
    simp at h2
/-- Where a search stands. -/
structure SrS (cp : Int) (l : List ItemT) (M : Nat) (w : World) (lv : Value) (p : List Int) (k : Int) : Prop where
  ex : ∃ A c, lv = .slice A p.length c ∧ p.length ≤ c
  sl : SlI w lv p
  few : p.length ≤ l.length
  ok : Vd cp l p
  lt : ∀ x ∈ p, 0 ≤ x ∧ x < M
  k0 : 0 ≤ k
  kM : k ≤ M
  nob : NoB cp l M p k
theorem SrS.ext {cp : Int} {l : List ItemT} {M : Nat} {w w' : World} {lv lv' : Value} {p : List Int} {k q : Int} (h : SrS cp l M w lv p k) (hq : k ≤ q ∧ q < M) (hn : NoB cp l M p q) (hl : p.length < l.length) (hv : Vd cp l (p ++ [q])) (hs : SlI w' lv' (p ++ [q])) (hex : ∃ A c, lv' = .slice A (p.length + 1) c ∧ p.length + 1 ≤ c) : SrS cp l M w' lv' (p ++ [q]) 0 ∧ leftK M l.length (rowI w' lv') 0 < leftK M l.length (rowI w lv) k := by
  have h0 := h.k0
  refine ⟨⟨?_, hs, by rw [List.length_append, List.length_singleton]; omega, hv, fun x hx => ?_, Int.le_refl _, by omega, nob_ext hn⟩, ?_⟩
  · rw [List.length_append, List.length_singleton]
    exact hex
  · rcases List.mem_append.1 hx with h1 | h1
    · exact h.lt x h1
    · obtain rfl : x = q := by simpa using h1
      omega
  · rw [rowI_sl hs, rowI_sl h.sl]
    exact left_ext hl h.lt h.k0 hq.1 hq.2
theorem SrS.back {cp : Int} {l : List ItemT} {M : Nat} {w w' : World} {lv lv' : Value} {p : List Int} {k a : Int} (h : SrS cp l M w lv (p ++ [a]) k) (hn : NoB cp l M (p ++ [a]) M) (hl : (p ++ [a]).length < l.length) (hs : SlI w' lv' p) (hex : ∃ A c, lv' = .slice A p.length c ∧ p.length ≤ c) : SrS cp l M w' lv' p (a + 1) ∧ leftK M l.length (rowI w' lv') (a + 1) < leftK M l.length (rowI w lv) k := by
  rw [List.length_append, List.length_singleton] at hl
  have ha := h.lt a (by simp)
  have hv := vd_take h.ok p.length (by simp)
  rw [List.take_left] at hv
  refine ⟨⟨hex, hs, by omega, hv, fun x hx => h.lt x (by simp [hx]), by omega, by omega, nob_back hl hn⟩, ?_⟩
  rw [rowI_sl hs, rowI_sl h.sl]
  exact left_back hl h.lt h.k0 h.kM
theorem firstList_ok (cp : Int) (l : List ItemT) (M : Nat) (v : Value) (w : World) (hl : SlF encQ w v l) (hc : cp ≤ 999999999) (hx : ∀ x ∈ l, 0 ≤ x.2.2 ∧ x.2.2 ≤ 999999999) (h8 : l.length ≤ 8) (hM : M ≤ 8) :
    Calls Tryz.prog 42 #[v, .int .i64 cp, .int .i64 M] w fun e w' => ((∃ A c b, e = .returned (.tuple #[.slice A l.length c, .bool true]) ∧ SlI w' (.slice A l.length c) b ∧ Full cp l M b ∧ NoB cp l M b 0) ∨ (e = .returned (.tuple #[.slice none 0 0, .bool false]) ∧ ∀ y, ¬ Full cp l M y)) ∧ Below w.heap.size w w' := by
  have kP := fun V vn ns (h : Below w.heap.size w V) (hi : SlI V vn ns) (hlen : ns.length ≤ l.length) => packed_ok cp l ns v vn V (hl.below h) hi hc hx hlen (by omega)
  obtain ⟨Al, cl, rfl⟩ := hl.form
  have hS0 : SrS cp l M w (.slice none 0 0) [] 0 := ⟨⟨none, 0, rfl, Nat.le_refl _⟩, .inl ⟨rfl, rfl⟩, Nat.zero_le _, vd_nil _ _, fun x h => by simp at h, Int.le_refl _, by omega, nob_start _ _ _⟩
  have hX0 := Below.refl w.heap.size w
  have HKP := Lib.hid kP
  have H8 := Lib.hid h8
  have H8M := Lib.hid hM
  clear kP hl hc hx h8 hM
  go_enter Tryz.func42, Tryz.ntmps42
  go_wp2
  go_step3
  go_wp2
  go_step3
  go_wp2
  go_loopw [8, 9] (fun lv kv wr => ∃ (p : List Int) (k : Int), kv = .int .i64 k ∧ SrS cp l M wr lv p k ∧ Below w.heap.size w wr) (fun lv kv wr => leftK M l.length (rowI wr lv) (intOf kv))
  case atStart => exact ⟨[], 0, rfl, hS0, hX0⟩
  case round =>
    clear hS0 hX0
    obtain ⟨p, k, rfl, hS, hX⟩ := hrel
    rename World => w3
    obtain ⟨Ap, cpp, rfl, hcp⟩ := hS.ex
    have HCP := Lib.hid hcp
    have HS := Lib.hid hS
    have hfew := hS.few
    clear hS hcp
    rcases Nat.lt_or_eq_of_le hfew with hlt | heq
    · have hlti : (p.length : Int) < l.length := by omega
      have HLT := Lib.hid hlt
      have hY0 := Below.refl w3.heap.size w3
      have hN0 := HS.out.nob
      have hk := HS.out.kM
      clear hfew hlt
      go_wp2_with fail
      go_loopw [8, 9, 10] (fun lv kv nv wr => ∃ q : Int, nv = .int .i64 q ∧ lv = .slice Ap p.length cpp ∧ kv = .int .i64 k ∧ k ≤ q ∧ q ≤ M ∧ NoB cp l M p q ∧ Below w3.heap.size w3 wr) (fun _ _ nv _ => M - (intOf nv).toNat)
      case atStart => exact ⟨k, rfl, rfl, rfl, Int.le_refl _, hk, hN0, hY0⟩
      case round =>
        clear hN0 hY0 hk
        obtain ⟨q, rfl, rfl, rfl, hkq, hqM, hN, hY⟩ := hrel
        rename World => w4
        by_cases hqM2 : q < M
        · have hX4 := hX.trans (hY.mono hX.size)
          have h8 := H8.out
          have hlt := HLT.out
          have kC := cloneI_ok p _ w4 (HS.out.sl.below hY) (by omega)
          have HN := Lib.hid hN
          have HKQ := Lib.hid (And.intro hkq hqM2)
          clear h8 hlt hN hqM
          go_wp2_with fail
          refine kC.mono ?_
          rintro e w5 ⟨⟨u, rfl, hu⟩, hB5⟩
          have hY5 := hY.trans (hB5.mono hY.size)
          obtain ⟨W6, hW6⟩ : ∃ W6, W6 = w5.alloc (.cells #[.int .i64 q] 3) := ⟨_, rfl⟩
          have hB6 : Below w5.heap.size w5 W6 := by subst hW6; exact (Below.refl _ _).alloc (Nat.le_refl _) _
          have hrow : RowK W6 3 w5.heap.size [.int .i64 q] := by subst hW6; exact heap_alloc_new w5 _
          have hI : IAt W6 w5.heap.size 0 [q] := fun i x hi => by
            match i, hi with
            | 0, hi =>
              obtain rfl : q = x := by simpa using hi
              exact hrow.cell (by rfl)
            | i + 1, hi => simp at hi
          have hY6 := hY5.trans (hB6.mono hY5.size)
          have ho6 := (hu.lower hY.size).keep hB6
          obtain ⟨A7, c7, w7, hap, hown7, hg7, -, -⟩ := run_append_ints W6 23 w3.heap.size _ p [q] ho6 w5.heap.size 0 1 hI (by simp) (by have := H8.out; have := HLT.out; simp; omega) hY6.size
          rw [List.length_singleton] at hap hown7
          have hY7 : Below w3.heap.size w3 w7 := hY6.grown hg7 hY6.size (fun g e => (ho6.lt g e).1)
          obtain ⟨Au, cu, hue⟩ := hu.sl.form
          subst hue
          have HAP := Lib.hid hap
          have HW6 := Lib.hid hW6
          have HO7 := Lib.hid (And.intro hown7 hY7)
          clear kC hu hB5 hY5 hW6 hB6 hrow hI hY6 ho6 hap hown7 hg7 hY7 hX4
          go_wp2_with (at_builtin; rw [← HW6.out]; refine Lib.wpList_append_run _ rfl _ _ _ _ rfl _ _ rfl rfl _ _ HAP.out ?_)
          have hX7 := hX.trans (HO7.out.2.mono hX.size)
          have kp := HKP.out w7 _ (p ++ [q]) hX7 HO7.out.1.sl (by rw [List.length_append, List.length_singleton]; exact HLT.out)
          refine kp.mono ?_
          rintro e w8 ⟨⟨A8, c8, rfl⟩, hB8⟩
          obtain ⟨z, hz⟩ : ∃ z, z = (packP cp l (p ++ [q])).1 := ⟨_, rfl⟩
          rw [← hz]
          have HZ := Lib.hid hz
          have hY8 := HO7.out.2.trans (hB8.mono HO7.out.2.size)
          have hX8 := hX.trans (hY8.mono hX.size)
          have hs8 := HO7.out.1.sl.below hB8
          obtain ⟨zb, hzb⟩ : ∃ zb, (z == 0) = zb := ⟨_, rfl⟩
          have HZB := Lib.hid hzb
          clear kp hz hB8 hX7
          cases zb with
          | true =>
            have hst := SrS.ext HS.out HKQ.out HN.out HLT.out (by unfold Vd; rw [← HZ.out]; have := HZB.out; simpa using this) hs8 ⟨A7, c7, rfl, ownI_cap HO7.out.1⟩
            have HST := Lib.hid (And.intro hst hX8)
            clear hst hX8 hs8 hY8 hY
            go_wp2_with fail
            go_roundw
            case rel => exact ⟨_, _, rfl, HST.out.1.1, HST.out.2⟩
            case measure => exact HST.out.1.2
          | false =>
            have hnv : ¬ Vd cp l (p ++ [q]) := fun h => by
              have := HZB.out
              unfold Vd at h
              rw [HZ.out, h] at this
              cases this
            have hN2 := nob_skip HLT.out hnv HN.out
            have hkq2 := HKQ.out
            have hk0 := HS.out.k0
            have h8M := H8M.out
            have wk1 : wrap64 (q + 1) = q + 1 := wrap64_small (by omega)
            have wk2 : IntKind.i64.wrap (q + 1) = q + 1 := wrap_small (by omega)
            have HN2 := Lib.hid (And.intro hN2 hY8)
            have HQQ := Lib.hid (show k ≤ q + 1 ∧ q + 1 ≤ M from ⟨by omega, by omega⟩)
            have HMM := Lib.hid (show M - (q + 1).toNat < M - q.toNat by omega)
            clear hnv hN2 hkq2 hk0 h8M hX8 hs8 hY8 hY
            go_wp2_with fail
            go_roundw
            case rel => exact ⟨q + 1, rfl, rfl, rfl, HQQ.out.1, HQQ.out.2, HN2.out.1, HN2.out.2⟩
            case measure => exact HMM.out
        · obtain rfl : q = M := by omega
          have hX4 := hX.trans (hY.mono hX.size)
          by_cases hp0 : p.length = 0
          · have hpz : ((p.length : Int) == 0) = true := by simp [hp0]
            have hno := nob_none (cap := cp) (l := l) (M := M) (by have := HLT.out; omega) (by
              have h : p = [] := List.eq_nil_of_length_eq_zero hp0
              rw [h] at hN
              exact hN)
            have HNO := Lib.hid hno
            clear hno hN hkq hqM hqM2 hp0
            go_wp2_with fail
            (try rw [Exit.noGoto_ret])
            go_ret2
            exact ⟨.inr ⟨rfl, HNO.out⟩, hX4⟩
          · have hpz : ((p.length : Int) == 0) = false := by simpa using hp0
            obtain ⟨m0, hm0⟩ : ∃ m0, p.length = m0 + 1 := ⟨p.length - 1, by omega⟩
            obtain ⟨bp, op, a, hAp, -, hbp, ha, ra⟩ := (HS.out.sl.below hY).cells (k := m0) (by omega)
            subst hAp
            obtain ⟨A', c', hrun, hmc, hsl⟩ := slcK_to (some ⟨bp, op, none⟩) cpp m0 p (by omega) HCP.out
            have hp : p = p.take m0 ++ [a] := by
              have h1 := takeF_succQ ha
              rw [← hm0, List.take_length] at h1
              exact h1
            have htl : (p.take m0).length = m0 := takeF_lenQ (by omega)
            have hab := HS.out.lt a (List.mem_of_getElem? ha)
            have h8M := H8M.out
            have h8 := H8.out
            have hlt := HLT.out
            have hS2 : SrS cp l M w3 (.slice (some ⟨bp, op, none⟩) p.length cpp) (p.take m0 ++ [a]) k := by rw [← hp]; exact HS.out
            have hN2 : NoB cp l M (p.take m0 ++ [a]) M := by rw [← hp]; exact hN
            have hbk := fun V (hV : Below w4.heap.size w4 V) => SrS.back (w' := V) (lv' := .slice A' m0 c') hS2 hN2 (by rw [← hp]; exact hlt) (hsl V ((HS.out.sl.below hY).below hV)) ⟨A', c', by rw [htl], by rw [htl]; exact hmc⟩
            have HBK := Lib.hid hbk
            have hw1 : wrap64 ((p.length : Int) - 1) = (m0 : Int) := by rw [show (p.length : Int) - 1 = m0 by omega]; exact wrap64_small (by omega)
            have hw2 : IntKind.i64.wrap ((p.length : Int) - 1) = (m0 : Int) := by rw [show (p.length : Int) - 1 = m0 by omega]; exact wrap_small (by omega)
            have wa1 : wrap64 (a + 1) = a + 1 := wrap64_small (by omega)
            have wa2 : IntKind.i64.wrap (a + 1) = a + 1 := wrap_small (by omega)
            have hm1 : (0 : Int) ≤ m0 := by omega
            have hm2 : (m0 : Int) < p.length := by omega
            have hm3 : (m0 : Int) ≤ cpp := by have := HCP.out; omega
            have HX4 := Lib.hid hX4
            clear hN hN2 hS2 hbk hp htl hab h8M h8 hlt hsl hmc ha hm0 hp0 hkq hqM hqM2 hX4 hbp hY
            go_wp2_with fail
            go_quiet (fail)
            go_wp2_with fail
            go_roundw
            case rel => exact ⟨_, _, rfl, (HBK.out _ (below_drewN (Below.refl _ _) _)).1, below_drewN HX4.out _⟩
            case measure => exact (HBK.out _ (below_drewN (Below.refl _ _) _)).2
    · go_wp2_with fail
      (try rw [Exit.noGoto_ret])
      go_ret2
      have hS := HS.out
      rw [heq]
      exact ⟨.inl ⟨_, _, p, rfl, by have := hS.sl; rw [heq] at this; exact this, ⟨heq, hS.ok, hS.lt⟩, nob_zero heq hS.nob⟩, hX⟩
end Go.Proofs
