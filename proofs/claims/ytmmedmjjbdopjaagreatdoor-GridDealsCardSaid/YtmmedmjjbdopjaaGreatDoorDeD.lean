/- GridDeals: grid.Draw. -/
import Derived.Test.YtmmedmjjbdopjaaGreatDoorDeC
import Derived.Test.YtmmedmjjbdopjaaGreatDoorDrawP
import Derived.Lib.OwnBridge
import Derived.Lib.Hide
namespace Go.Proofs
open Go.RowKit Go.Lib
set_option maxHeartbeats 8000000
set_option maxRecDepth 1000000
def slLen : Value → Nat | .slice _ n _ => n | _ => 0
theorem RowX.own {w : World} {t : TypeId} {B g : Nat} {l : List Int} (h : RowX w t g l) (hB : B ≤ g) (hm : l.length ≤ maxLen) : OwnI t w B (.slice (some ⟨g, 0, none⟩) l.length l.length) l :=
  ⟨by simp, .inr ⟨g, l.length, _, rfl, hB, h, Nat.le_refl _, hm, by simp, by rw [List.take_of_length_le (by simp)]⟩⟩
theorem putRow_kept {α : Type} [Inhabited α] (enc : α → Value) (w : World) (g o q : Nat) (d : Array α) : Kept1 g w (Sort.putRow enc (Sort.ahead w q) g o d) := by
  refine ⟨rfl, rfl, rfl, by simp [Sort.putRow, Sort.mapBlock, Sort.ahead], fun k hk hne => ?_⟩
  simp only [Sort.putRow, Sort.mapBlock, Sort.ahead]
  rw [Array.getElem?_modify, if_neg (Ne.symm hne)]
theorem Kept1.below {b B : Nat} {W W' : World} (h : Kept1 b W W') (hB : B ≤ b) (hW : b < W.heap.size) : Below B W W' :=
  ⟨h.os, h.tape, h.output, h.size, fun k hk => h.block k (by omega) (by omega)⟩
theorem OwnI.keepAt {T : TypeId} {w w' : World} {B g n cap : Nat} {l : List Int} (h : OwnI T w B (.slice (some ⟨g, 0, none⟩) n cap) l) (hb : w'.heap[g]? = w.heap[g]?) : OwnI T w' B (.slice (some ⟨g, 0, none⟩) n cap) l := by
  refine ⟨h.1, ?_⟩
  rcases h.2 with ⟨h1, -⟩ | ⟨g', cap', cur, e, hB, hg, r⟩
  · cases h1
  · have eg : g' = g := by
      injection e with e1
      injection e1 with e1
      injection e1 with e1
      exact e1.symm
    subst eg
    exact .inr ⟨g', cap', cur, e, hB, hb.trans hg, r⟩
theorem OwnI.lt {T : TypeId} {w : World} {B g n cap : Nat} {l : List Int} (h : OwnI T w B (.slice (some ⟨g, 0, none⟩) n cap) l) : B ≤ g ∧ g < w.heap.size := by
  rcases h.2 with ⟨h1, -⟩ | ⟨g', cap', cur, e, hB, hg, r⟩
  · cases h1
  · injection e with e1
    injection e1 with e1
    injection e1 with e1
    subst e1
    exact ⟨hB, (Array.getElem?_eq_some_iff.1 hg).1⟩
theorem OwnI.len {T : TypeId} {w : World} {B : Nat} {a : Option Addr} {n cap : Nat} {l : List Int} (h : OwnI T w B (.slice a n cap) l) : n = l.length := by
  rcases h.2 with ⟨h1, h2⟩ | ⟨g', cap', cur, e, hB, hg, r⟩
  · injection h1 with _ e2
    omega
  · injection e
theorem del_ok (L : List Int) (Sg n k B : Nat) (w : World) (hL : OwnI 3 w B (.slice (some ⟨Sg, 0, none⟩) L.length n) L) (hk : k < L.length) :
    Calls Tryz.prog 39 #[.slice (some ⟨Sg, 0, none⟩) L.length n, .int .i64 k, .int .i64 ((k : Int) + 1)] w fun e w' => e = .returned (.slice (some ⟨Sg, 0, none⟩) (L.length - 1) n) ∧ OwnI 3 w' B (.slice (some ⟨Sg, 0, none⟩) (L.length - 1) n) (L.take k ++ L.drop (k + 1)) ∧ Kept1 Sg w w' := by
  obtain ⟨g, cap, e, hB, hg, hn, hm, hl, hH⟩ := holds_of_ownsRow (enc := valI) hL (by simp)
  injection e with e1 _ e3
  injection e1 with e1
  injection e1 with e1
  subst e1
  subst e3
  obtain ⟨j0, hj, hy0, hy1, hy2⟩ := info_parts (P := Tryz.prog) (e := 3) (z := .int .i64 0) (size := 1) (bytes := 8) (by kernel_rfl)
  have h := AnyE.slices_Delete Tryz.delI valI (fun _ => rfl) (0 : Int) (fun _ => rfl) j0 hj hy1 Sg 0 n k (k + 1) L.toArray w hH (by simpa using hn) (by simpa [maxLen] using hm) (Nat.le_succ k) (by simpa using Nat.succ_le_of_lt hk)
  rw [show ((((k + 1 : Nat)) : Int)) = (k : Int) + 1 by omega] at h
  have ht : k + 1 - k = 1 := by omega
  rw [ht] at h
  simp only [List.size_toArray] at h
  refine h.mono ?_
  rintro e w' ⟨rfl, q, rfl⟩
  refine ⟨rfl, ?_, putRow_kept _ _ _ _ _ _⟩
  have h2 := ownsRow_putRow (q := q) (k := L.length - 1) (ys := L.take k ++ L.drop (k + 1) ++ List.replicate 1 0) hL (by simp; omega) (Nat.sub_le _ _)
  have e3 : (L.take k ++ L.drop (k + 1) ++ List.replicate 1 0).take (L.length - 1) = L.take k ++ L.drop (k + 1) := by
    rw [List.take_append_of_le_length (by simp; omega), List.take_of_length_le (by simp; omega)]
  rw [e3] at h2
  unfold OwnI
  rw [show (L.take k ++ L.drop (k + 1)).length = L.length - 1 by simp; omega]
  exact h2
/-- What a drawn order is. -/
def DrawE (n : Nat) (key : Int) (w : World) (e : Ending) (w' : World) : Prop := ∃ g cap D, e = .returned (.tuple #[.slice (some ⟨g, 0, none⟩) n cap, .int .i64 0]) ∧ D.length = n ∧ SlI w' (.slice (some ⟨g, 0, none⟩) n cap) D ∧ D.Perm (rangeI n) ∧ (∀ d r, D = d :: r → d = drawX key % n) ∧ Below w.heap.size w w'
theorem drawG_ok (n : Nat) (key : Int) (w : World) (hk : 1 ≤ key ∧ key ≤ 2147483562) (hn : n ≤ 256) :
    Calls Tryz.prog 8 #[.int .i64 key, .int .i64 n] w (DrawE n key w) := by
  have hw1 := fun W => within_ok key 1 2147483562 W
  rw [show withinI key 1 2147483562 = 0 by unfold withinI; rw [if_neg (by omega)]] at hw1
  have hw2 := fun W => within_ok (n : Int) 0 256 W
  rw [show withinI (n : Int) 0 256 = 0 by unfold withinI; rw [if_neg (by omega)]] at hw2
  have hf2 := fun blk W => first2_ok 0 0 blk 2 W
  rw [show orI 0 0 0 = 0 by decide] at hf2
  have hI0 := DrawI.begin n hk.1 hk.2
  obtain ⟨j0, hj, hy0, hy1, hy2⟩ := info_parts (P := Tryz.prog) (e := 3) (z := .int .i64 0) (size := 1) (bytes := 8) (by kernel_rfl)
  have hn0 : (0 : Int) ≤ (n : Int) := by omega
  clear hk
  go_enter Tryz.func8, Tryz.ntmps8
  have hw1' := hw1 w
  have hw2' := hw2 w
  clear hw1 hw2
  go_wp2_with fail
  refine hw1'.mono ?_
  rintro e w4 ⟨rfl, rfl⟩
  go_wp2_with fail
  refine hw2'.mono ?_
  rintro e w5 ⟨rfl, rfl⟩
  clear hw1' hw2'
  go_wp2_with (first
    | (go_at_call 32; refine (hf2 _ _ ?_ ?_).mono ?_; (go_simp); (go_simp); rintro e w6 ⟨rfl, rfl⟩)
    | (at_make; refine wpList_make_full _ rfl _ _ 22 rfl w5.heap.size 3 j0 _ 1 Tryz.underlying22 hj hy0 hy1 .i64 .i64 _ _ n rfl rfl rfl rfl ?a1 ?a2 ?a3 ?_))
  case a1 => rw [hy2]; omega
  case a2 => unfold maxLen; omega
  case a3 => simp
  have hX0 : Below w5.heap.size w5 (w5.alloc (.cells #[.int .i64 0, .int .i64 0] 28)) := (Below.refl _ _).alloc (Nat.le_refl _) _
  intro w1 hown1 hgrow1
  have hS1 := RowX.made hown1
  have hX1 := hX0.grown hgrow1 hX0.size (fun k hk => by cases hk)
  replace hS1 : RowX w1 3 (w5.heap.size + 1) (List.replicate n 0) := by simpa using hS1
  have hSg0 : w5.heap.size ≤ w5.heap.size + 1 := Nat.le_succ _
  generalize w5.heap.size + 1 = Sg at hS1 hSg0 ⊢
  clear hown1 hgrow1 hX0 hf2
  rw [← preL_zero (fun i : Nat => (i : Int))] at hS1
  go_wp2
  go_loopw [25] (fun i wr => ∃ k : Nat, k ≤ n ∧ i = .int .i64 k ∧ RowX wr 3 Sg (preL (fun i : Nat => (i : Int)) k n) ∧ Below w5.heap.size w5 wr) (fun i _ => n - (intOf i).toNat)
  case atStart => exact ⟨0, Nat.zero_le _, rfl, hS1, hX1⟩
  case round =>
    clear hS1 hX1
    obtain ⟨k, hk, rfl, hS, hX⟩ := hrel
    rcases Nat.lt_or_eq_of_le hk with hkn | rfl
    · have hi0 : (0 : Int) ≤ k := by omega
      have hi1 : (k : Int) < n := by omega
      have wk := wrapS (n := (k : Int) + 1) (by omega)
      have s0 := hS.cell (preL_get (fun i : Nat => (i : Int)) (k := k) hkn)
      have z0 := hS.fz k
      have hS' := hS.set k (k : Int)
      rw [preL_set (fun i : Nat => (i : Int)) hkn] at hS'
      have hX' := hX.setCell (p := ⟨Sg, k, none⟩) hSg0 (.int .i64 (k : Int))
      have HS := Lib.hid hS'
      have HX := Lib.hid hX'
      clear hS' hX' hS hX hI0
      go_wp2
      exact ⟨⟨k + 1, hkn, rfl, HS.out, HX.out⟩, by simp [intOf]; omega⟩
    · rw [preL_full] at hS
      go_wp2_with (at_make; refine wpList_make_own _ rfl _ _ 22 rfl w5.heap.size 3 j0 _ 1 Tryz.underlying22 hj hy0 hy1 .i64 .i64 _ k rfl rfl rfl ?b1 ?b2 ?b3 ?_)
      case b1 => rw [hy2]; omega
      case b2 => unfold maxLen; omega
      case b3 => exact hX.size
      intro w2 hown2 hgrow2
      have hBw : Below wr.heap.size wr w2 := (Below.refl _ _).grown hgrow2 (Nat.le_refl _) (fun k hk => by cases hk)
      have hL0 : OwnI 3 wr w5.heap.size (.slice (some ⟨Sg, 0, none⟩) k k) (rangeI k) := by
        have h := RowX.own (l := rangeI k) hS hSg0 (by rw [rangeI_len]; unfold maxLen; omega)
        rwa [rangeI_len] at h
      have hL2 := hL0.keep hBw
      have hSl := hL0.lt.2
      have hX2 := hX.trans (hBw.mono hX.size)
      have hD2 : OwnI 3 w2 w5.heap.size (.slice (some ⟨wr.heap.size, 0, none⟩) 0 k) [] := hown2
      generalize wr.heap.size = Dg at hD2 hSl ⊢
      clear hown2 hgrow2 hBw hL0 hX hS hk
      go_wp2
      go_loopw [7, 9, 10] (fun lf dr xv wr => ∃ (L D : List Int) (x : Int), lf = .slice (some ⟨Sg, 0, none⟩) L.length k ∧ dr = .slice (some ⟨Dg, 0, none⟩) D.length k ∧ xv = .int .i64 x ∧ DrawI k key x L D ∧ OwnI 3 wr w5.heap.size lf L ∧ OwnI 3 wr w5.heap.size dr D ∧ Below w5.heap.size w5 wr) (fun lf _ _ _ => slLen lf)
      case atStart => exact ⟨rangeI k, [], key, by rw [rangeI_len], rfl, rfl, hI0, hL2, hD2, hX2⟩
      case round =>
        clear hL2 hD2 hX2 hI0
        obtain ⟨L, D, x, rfl, rfl, rfl, hI, hL, hD, hX⟩ := hrel
        have hlen := hI.len
        cases hl : L.length with
        | zero =>
          obtain rfl := List.eq_nil_of_length_eq_zero hl
          have hlD : D.length = k := by simpa using hlen
          have hfin : D.Perm (rangeI k) ∧ (∀ d r, D = d :: r → d = drawX key % k) := ⟨hI.done, hI.first⟩
          have HF := Lib.hid hfin
          rw [hlD] at hD ⊢
          clear hfin hI hlen hL
          go_wp2
          go_ret2
          exact ⟨_, _, _, rfl, hlD, hD.sl, HF.out.1, HF.out.2, hX⟩
        | succ m =>
          rw [← hl]
          have h0 : (0 : Int) < L.length := by omega
          have ne0 : ((L.length : Int) == 0) = false := by rw [beq_eq_false_iff_ne]; omega
          have ne1 : ¬ (L.length : Int) = 0 := by omega
          have hLn : L.length ≤ 256 := by omega
          have hy := drawX_bd x
          have wp := wrapD (n := 40014 * x) (by have := hI.lo; have := hI.hi; omega)
          have wm : Int.tmod (40014 * x) 2147483563 = drawX x := by
            rw [Int.tmod_eq_emod_of_nonneg (by have := hI.lo; omega)]
            rfl
          obtain ⟨j, hj0⟩ : ∃ j : Nat, (j : Int) = drawX x % L.length := ⟨(drawX x % L.length).toNat, by have := Int.emod_nonneg (drawX x) ne1; omega⟩
          have hjl : (j : Int) < L.length := by rw [hj0]; exact Int.emod_lt_of_pos _ h0
          have wq : Int.tmod (drawX x) L.length = j := by
            rw [Int.tmod_eq_emod_of_nonneg hy.1, hj0]
          have hjn : j < L.length := by omega
          obtain ⟨d, hd⟩ : ∃ d, L[j]? = some d := ⟨_, List.getElem?_eq_getElem hjn⟩
          have hI' := hI.step hj0 hd
          have r0 := hL.at_ rfl j d hd
          rw [Nat.zero_add] at r0
          have hi0 : (0 : Int) ≤ j := by omega
          have wk := wrapS (n := (j : Int) + 1) (by omega)
          have hDn : D.length + 1 ≤ k := by omega
          have HI := Lib.hid hI'
          have H0 := Lib.hid hj0
          have HL := Lib.hid hL
          have HX := Lib.hid hX
          have HD := Lib.hid hd
          clear hI' hj0 hI hlen hl hy hL hX hd
          go_wp2_with (at_builtin; refine wpList_append_fits _ rfl _ _ 22 rfl w5.heap.size 3 j0 1 Tryz.underlying22 hj hy1 Dg D.length k (D.map valI) rfl (hD.alloc _) ⟨wr.heap.size, 0, none⟩ 1 1 [valI d] rfl rfl ?c1 ?c2 ?c3 ?_)
          case c1 =>
            intro i u hu
            match i, hu with
            | 0, hu => simp [valI] at hu; subst hu; go_simp
          case c2 => intro u hu; simp [valI] at hu; subst hu; rfl
          case c3 => exact hDn
          intro w3 hown3 hgrow3
          have hLlt := HL.out.lt
          have hDlt := hD.lt
          have hb3 : w3.heap[Sg]? = wr.heap[Sg]? := (hgrow3.block Sg (by simp; omega) (by simp; omega)).trans (Below.heap_alloc _ _ _ hLlt.2)
          have hL3 := HL.out.keepAt hb3
          have hD3 : OwnI 3 w3 w5.heap.size (.slice (some ⟨Dg, 0, none⟩) (D.length + 1) k) (D ++ [d]) := by
            unfold OwnI
            simpa using hown3
          have hX3 := (HX.out.alloc HX.out.size (.cells #[.int .i64 d] 3)).grown hgrow3 (by have := HX.out.size; simp; omega) (fun i hi => by cases hi; exact hDlt.1)
          have hdel := del_ok L Sg k j w5.heap.size w3 hL3 hjn
          have hD3lt := hD3.lt.2
          have hL3lt := hL3.lt.2
          have hD3' := Lib.hid hD3
          have hX3' := Lib.hid hX3
          have hl' : (L.take j ++ L.drop (j + 1)).length = L.length - 1 := by simp; omega
          have Hl := Lib.hid hl'
          clear hl' hL3 hD3 hX3 hb3 hown3 hgrow3 hD
          go_wp2_with (go_at_call 39; refine hdel.mono ?_; rintro e w4 ⟨rfl, hL4, hK⟩)
          have hD4 := hD3'.out.keepAt (hK.block Dg hD3lt (by omega))
          exact ⟨⟨_, D ++ [d], _, by rw [Hl.out], by simp, rfl, HI.out, hL4, hD4, hX3'.out.trans (hK.below hSg0 hL3lt)⟩, by simp [slLen]; omega⟩
end Go.Proofs
