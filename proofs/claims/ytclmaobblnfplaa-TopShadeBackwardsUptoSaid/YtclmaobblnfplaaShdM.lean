import Derived.Test.YtclmaobblnfplaaBakP
import Derived.Test.YtclmaobblnfplaaJbF
import Derived.Test.YtclmaobblnfplaaJbR
import Derived.Test.YtclmaobblnfplaaOrdS
import Derived.Test.YtclmaobblnfplaaBndD
import Derived.Test.YtclmaobblnfplaaShdP
import Derived.Test.YtclmaobblnfplaaAmE
section
/- Jobs backwards: lists backwards, jobs as those of the reference, the end of an order's schedule. -/
namespace Go.Proofs
open Go.RowKit Go.MapKept
set_option maxHeartbeats 16000000
set_option maxRecDepth 1000000
/-- The schedule of an order is accepted, and ends as the order does. -/
theorem startsX_sch {js : List JobT} (hx : JobX js 0) {p : List Nat} (hp : OrdN js.length p) {c e : Int} (h : StartsX js (schP js (stN js) p) c e) : c = endP js (stN js) p ∧ e = 0 := by
  have ok := hx.ok
  have hm : 0 < stN js := by
    obtain ⟨j0, hj0⟩ : ∃ j, js[0]? = some j := ⟨_, List.getElem?_eq_getElem ok.pos⟩
    have h1 := (ok.ok _ (List.mem_of_getElem? hj0)).d
    omega
  have hl : (schP js (stN js) p).length = js.length := schK_len ..
  have hn := numE_mk (n := js.length) (m := stN js) hl fun x hx => by
    obtain ⟨h1, h2⟩ := sch_num ok.ok ok.few hp x hx
    exact ⟨h1, fun y hy => by have := h2 y hy; omega⟩
  rcases h with ⟨h1, -⟩ | ⟨-, ⟨h1, -⟩ | ⟨-, ⟨h1, -⟩ | ⟨-, h2, h3⟩⟩⟩
  · exact absurd hn h1
  · exact absurd h1 (sch_early ok.ok hp)
  · exact absurd h1 (sch_hit ok.ok hp)
  · exact ⟨h2.trans (sch_end hm ok.ok ok.pos hp), h3⟩
theorem jobs_short {js : List JobT} (hx : JobX js 0) : ∀ j ∈ js, j.2.1.length ≤ 1000 ∧ j.2.2.length ≤ 1000 := fun j hj => by
  have h := hx.ok.ok j hj
  have h1 := h.t
  have h2 := h.d
  have h3 := h.few
  omega
theorem shadeEnd_ok (js : List JobT) (p : List Nat) (v vo : Value) (w : World) (hl : SlJ w v js) (hx : JobX js 0) (ho : SlI w vo (ints p)) (hp : OrdN js.length p) :
    Calls Try.prog 10 #[v, vo] w fun e w' => e = .returned (.tuple #[.int .i64 (endP js (stN js) p), .bool true]) ∧ Below w.heap.size w w' := by
  have hs := jobs_short hx
  have ok := hx.ok
  have hsl : (schP js (stN js) p).length = js.length := schK_len ..
  have hsz1 : (schP js (stN js) p).length ≤ 1000 := by have := ok.few; omega
  have hsz2 : ∀ x ∈ schP js (stN js) p, x.length ≤ 1000 := fun x hx' => by
    have h1 := (sch_num ok.ok ok.few hp x hx').1
    obtain ⟨j0, hj0⟩ : ∃ j, js[0]? = some j := ⟨_, List.getElem?_eq_getElem ok.pos⟩
    have h2 := (ok.ok _ (List.mem_of_getElem? hj0)).few
    omega
  have kS := shStsC_ok js p _ _ w hl hs hx ho hp
  have kC := fun V u (h : SlJ V v js) (hS : SlLL V u (schP js (stN js) p)) => shStarts_ok js _ _ u V h hS hs hx hsz1 hsz2
  have HX := Lib.hid hx
  have HP := Lib.hid hp
  have HL := Lib.hid hl
  have HSL := Lib.hid hsl
  obtain ⟨Al, cl, rfl⟩ := hl.form
  obtain ⟨Ao, co, rfl⟩ := ho.form
  clear hx hp hl ho hs ok hsz1 hsz2 hsl
  go_enter Try.func10, Try.ntmps10
  go_wp2_with fail
  refine kS.mono ?_
  rintro e V4 ⟨⟨gS, rfl, -, hSr⟩, hB⟩
  have hSs := SchRow.sl (cap := js.length) hSr
  rw [HSL.out] at hSs
  have kc := kC V4 _ (HL.out.below hB) hSs
  have HB := Lib.hid hB
  clear kS kC hSr hB hSs
  go_wp2_with fail
  refine kc.mono ?_
  rintro e V5 ⟨⟨c1, e1, rfl, hc1⟩, hB⟩
  obtain ⟨rfl, rfl⟩ := startsX_sch HX.out HP.out hc1
  clear kc hc1
  go_wp2_with fail
  go_ret2
  exact ⟨rfl, HB.out.trans (hB.mono HB.out.size)⟩
theorem shadeBack_ok (l : List Int) (v : Value) (w : World) (hl : SlI w v l) (hn : l.length ≤ 1000) :
    Calls Try.prog 9 #[v] w fun e w' => (∃ u, e = .returned u ∧ OwnI 3 w' w.heap.size u l.reverse) ∧ Below w.heap.size w w' := by
  obtain ⟨A, cap, rfl⟩ := hl.form
  have hB0 := Below.refl w.heap.size w
  have hO0 : OwnI 3 w w.heap.size (.slice none 0 0) (l.reverse.take 0) := OwnI.nil _ _ _
  go_enter Try.func9, Try.ntmps9
  go_wp2_with fail
  go_loopw [3, 7] (fun u i wr => ∃ k : Nat, k ≤ l.length ∧ i = .int .i64 k ∧ OwnI 3 wr w.heap.size u (l.reverse.take k) ∧ Below w.heap.size w wr) (fun _ i _ => l.length - (intOf i).toNat)
  case atStart => exact ⟨0, Nat.zero_le _, rfl, hO0, hB0⟩
  case round =>
    clear hB0 hO0
    obtain ⟨k, hk, rfl, hown, hX⟩ := hrel
    rename World => w3
    rcases Nat.lt_or_eq_of_le hk with hkn | rfl
    · obtain ⟨q, hq⟩ : ∃ q, q = l.length - 1 - k := ⟨_, rfl⟩
      obtain ⟨b, o, z, rfl, -, hb, hz, rz⟩ := (hl.below hX).cells (k := q) (by omega)
      have hrz : l.reverse[k]? = some z := by rw [List.getElem?_reverse hkn, ← hq]; exact hz
      have htl : (l.reverse.take k).length = k := takeV_len (by rw [List.length_reverse]; exact hk)
      obtain ⟨W1, hW1⟩ : ∃ W1, W1 = w3.alloc (.cells #[.int .i64 z] 3) := ⟨_, rfl⟩
      have hB1 : Below w3.heap.size w3 W1 := by subst hW1; exact (Below.refl _ _).alloc (Nat.le_refl _) _
      have hrow : RowK W1 3 w3.heap.size [.int .i64 z] := by subst hW1; exact heap_alloc_new w3 _
      have hI : IAt W1 w3.heap.size 0 [z] := fun q x hi => by
        match q, hi with
        | 0, hi =>
          obtain rfl : z = x := by simpa using hi
          exact hrow.cell (by rfl)
        | q + 1, hi => simp at hi
      have ho1 := hown.keep hB1
      have hX1 := hX.trans (hB1.mono hX.size)
      obtain ⟨A2, c2, W2, hap, hown2, hg, -, -⟩ := run_append_ints W1 23 w.heap.size _ (l.reverse.take k) [z] ho1 w3.heap.size 0 1 hI (by simp) (by rw [htl]; show k + 1 ≤ 100000; omega) hX1.size
      rw [htl, List.length_singleton] at hap hown2
      rw [← takeV_succ hrz] at hown2
      have hX2 : Below w.heap.size w W2 := hX1.grown hg hX1.size (fun g e => (ho1.lt g e).1)
      obtain ⟨Au, cu, hu⟩ := hown.sl.form
      rw [htl] at hu
      subst hu
      have HAP := Lib.hid hap
      have HW1 := Lib.hid hW1
      have HR := Lib.hid (And.intro hown2 hX2)
      have HK := Lib.hid (show k + 1 ≤ l.length from hkn)
      have HM := Lib.hid (show l.length - (k + 1) < l.length - k by omega)
      have hki : (k : Int) < l.length := by omega
      have hqe : (l.length : Int) - 1 - k = q := by omega
      have hw1 : IntKind.i64.wrap ((l.length : Int) - 1) = (l.length : Int) - 1 := wrap_small (by omega)
      have hw2 : wrap64 ((l.length : Int) - 1) = (l.length : Int) - 1 := wrap64_small (by omega)
      have hw3 : IntKind.i64.wrap ((l.length : Int) - 1 - k) = (q : Int) := by rw [hqe]; exact wrap_small (by omega)
      have hw4 : wrap64 ((l.length : Int) - 1 - k) = (q : Int) := by rw [hqe]; exact wrap64_small (by omega)
      have hq0 : (0 : Int) ≤ q := by omega
      have hq1 : (q : Int) < l.length := by omega
      obtain ⟨wk1, wk2⟩ := wrapsV (show k < 1048576 by omega)
      clear hap hW1 hown2 hX2 hg ho1 hX1 hI hrow hB1 hown hX hrz hqe hq htl hz hb hl
      go_wp2_with (at_builtin; rw [← HW1.out]; refine Lib.wpList_append_run _ rfl _ _ _ _ rfl _ _ rfl rfl _ _ HAP.out ?_)
      go_roundw
      case rel => exact ⟨k + 1, HK.out, by simp, HR.out.1, HR.out.2⟩
      case measure => exact HM.out
    · have e : l.reverse.take l.length = l.reverse := List.take_of_length_le (by rw [List.length_reverse]; exact Nat.le_refl _)
      rw [e] at hown
      have HR := Lib.hid hown
      obtain ⟨Au, cu, rfl⟩ := hown.sl.form
      clear hown
      go_wp2_with fail
      go_ret
      exact ⟨⟨_, rfl, HR.out⟩, hX⟩
theorem shadeJobs_ok (v : Value) (l : List JobV) (w : World) (hl : SlF encJ w v l) (hn : l.length ≤ 1048576) :
    Calls Try.prog 4 #[v] w fun e w' => (∃ u, e = .returned u ∧ OwnF encJ 3 44 w' w.heap.size u l) ∧ Below w.heap.size w w' := by
  obtain ⟨A, cap, rfl⟩ := hl.form
  go_enter Try.func4, Try.ntmps4
  go_wp2
  go_loopw [3, 8] (fun u i wr => ∃ k : Nat, k ≤ l.length ∧ i = .int .i64 k ∧ OwnF encJ 3 44 wr w.heap.size u (l.take k) ∧ Below w.heap.size w wr) (fun _ i _ => l.length - (intOf i).toNat)
  case atStart => exact ⟨0, Nat.zero_le _, rfl, OwnF.nil _ _ _, Below.refl _ _⟩
  case round =>
    obtain ⟨k, hk, rfl, hown, hBw⟩ := hrel
    obtain ⟨Au, cu, hu⟩ := (hown.sl encJ_len).form
    rw [takeV_len hk] at hu
    subst hu
    rcases Nat.lt_or_eq_of_le hk with hkn | rfl
    · obtain ⟨⟨nm, ⟨A1, n1, c1⟩, A2, n2, c2⟩, hc⟩ : ∃ t, l[k]? = some t := ⟨_, List.getElem?_eq_getElem hkn⟩
      obtain ⟨b, o, rfl, -, hb, r0, r1, r2⟩ := jbv_cells (hl.below hBw) hc
      dsimp only at r0 r1 r2
      have hi0 : (0 : Int) ≤ k := by omega
      have hi1 : (k : Int) < l.length := by omega
      have HWK := Lib.hid (wrapsV (show k < 1048576 by omega))
      have HK := Lib.hid (show k + 1 ≤ l.length from hkn)
      have HM := Lib.hid (show l.length - (k + 1) < l.length - k by omega)
      obtain ⟨Wt, hW⟩ : ∃ Wt, Wt = (wr.alloc (.cells #[.string nm, .slice A1 n1 c1, .slice A2 n2 c2] 31)).alloc (.cells #[.string nm, .slice A1 n1 c1, .slice A2 n2 c2] 44) := ⟨_, rfl⟩
      have hQt : Below wr.heap.size wr Wt := by subst hW; exact ((Below.refl _ _).alloc (Nat.le_refl _) _).alloc (by simp) _
      have hrowN : Wt.heap[wr.heap.size + 1]? = some (.cells (encJ (nm, (A1, n1, c1), (A2, n2, c2))).toArray 44 (0, 0)) := by
        have := heap_alloc_new (wr.alloc (.cells #[.string nm, .slice A1 n1 c1, .slice A2 n2 c2] 31)) (.cells #[.string nm, .slice A1 n1 c1, .slice A2 n2 c2] 44)
        rw [← hW] at this
        unfold encJ vS
        simpa using this
      have hownT := hown.keep hQt
      have hBt := hBw.trans (hQt.mono hBw.size)
      have hlt := hownT.lt
      obtain ⟨A3, c3, w2, hap, hown2, hg2, -⟩ := run_append_one (P := Try.prog) Wt 24 24 44 w.heap.size _ (l.take k) (nm, (A1, n1, c1), (A2, n2, c2)) encJ_len encJ_one hownT (wr.heap.size + 1) 1 64 (.agg #[.string ⟨#[]⟩, .slice none 0 0, .slice none 0 0]) Try.underlying24 (by kernel_rfl) rfl (by decide) (by decide) (flatV_row hrowN) (by rw [takeV_len hk]; omega) hBt.size
      rw [takeV_len hk] at hap hown2
      rw [← takeV_succ hc] at hown2
      have hB2 := hBt.grown hg2 hBt.size (fun g e => (hlt g e).1)
      have HW1 := Lib.hid hW
      have HAP := Lib.hid hap
      have HO := Lib.hid (And.intro hown2 hB2)
      clear hap hW hown2 hg2 hB2 hlt hBt hownT hrowN hQt hown hBw hc hl hb
      obtain ⟨wk1, wk2⟩ := HWK.out
      go_wp2_with (at_builtin; rw [← HW1.out]; refine Lib.wpList_append_run _ rfl _ _ _ _ rfl _ _ rfl rfl _ _ HAP.out ?_)
      go_roundw
      case rel => exact ⟨k + 1, HK.out, by simp, HO.out.1, HO.out.2⟩
      case measure => exact HM.out
    · rw [List.take_of_length_le (Nat.le_refl _)] at hown
      go_wp2
      go_ret
      exact ⟨⟨_, rfl, hown⟩, hBw⟩
end Go.Proofs
end

section
/- Shades: the fixed example, and all mixes of a few tabs, reckoned. -/
namespace Go.Proofs
open Go.AM Go.RowKit
set_option maxRecDepth 1000000
theorem shd_names : NamesOk Try.prog := namesOk_of (by kernel_rfl)
theorem shd_mixed : Try.prog.follows .mixedOrders = true := by kernel_rfl
theorem shadeShop_runs : (callF Try.prog noSum 100000 8 [] h0).map (·.1) = some (.bool true) := by kernel_rfl
/-- The fixed example holds, from any world, and nothing old is turned. -/
theorem shadeShop_ok (w : World) : Calls Try.prog 8 #[] w fun e w' => e = .returned (.bool true) ∧ Below w.heap.size w w' := by
  have e := shadeShop_runs
  rw [callF_eq] at e
  obtain ⟨⟨v, h'⟩, he, hv⟩ := Option.map_eq_some_iff.1 e
  simp only at hv
  subst hv
  refine (closed_callS shd_names shd_mixed noSum_ok (w := w) he rfl).mono ?_
  rintro e w' ⟨v', θ', rfl, hv, _, hb⟩
  cases hv
  exact ⟨rfl, hb⟩
noncomputable def resRow (r : Option (Value × AHeap)) : Option (Nat × List Value) := match r with
  | some (.slice (some ⟨j, 0, none⟩) n _, h) => match h.get j with
    | some (.cells c) => match c.row 0 (n * 3) with
      | some l => some (n, l)
      | none => none
    | _ => none
  | _ => none
theorem row_result {f : FuncId} {args : List Value} {n : Nat} {l : List Value} (e : resRow (callF Try.prog noSum 100000 f args h0) = some (n, l)) (ha : args.all flat = true) (hl : l.all flat = true) (hn : 0 < n) (w : World) :
    Calls Try.prog f args.toArray w fun e w' => ∃ B o cap, e = .returned (.slice (some ⟨B, o, none⟩) n cap) ∧ B < w'.heap.size ∧ (∀ i v, l[i]? = some v → w'.cell? ⟨B, i + o, none⟩ = some v) ∧ Below w.heap.size w w' := by
  unfold resRow at e
  split at e
  · rename_i j n' c' h heq
    split at e
    · rename_i c hg
      split at e
      · rename_i l' hrow
        simp only [Option.some.injEq, Prod.mk.injEq] at e
        obtain ⟨rfl, rfl⟩ := e
        rw [callF_eq] at heq
        refine (closed_callS shd_names shd_mixed noSum_ok (w := w) heq ha).mono ?_
        rintro e' w' ⟨v', θ', rfl, hv, R, hb⟩
        obtain ⟨-, hbl, hor⟩ := R.obj j _ hg
        have hcr : CRel Try.prog θ' (θ'.f j) c w' := hor
        have hcells : ∀ i v, l'[i]? = some v → w'.cell? ⟨(θ'.f j).blk, i + (θ'.f j).sh, none⟩ = some v := fun i v hi => by
          obtain ⟨v2, e2, r2⟩ := hcr.at_ i v (by have := row_at hrow i v hi; simpa using this)
          rwa [flat_eq (List.all_eq_true.1 hl v (List.mem_of_getElem? hi)) r2] at e2
        cases hv with
        | slice _ _ => exact ⟨_, (θ'.f j).sh, _, by rw [Nat.zero_add], hbl, hcells, hb⟩
        | sliceO _ _ _ => exact ⟨_, (θ'.f j).sh, _, by rw [Nat.zero_add], hbl, hcells, hb⟩
        | sliceE _ _ => exact absurd hn (Nat.lt_irrefl 0)
        | sliceZ _ => exact absurd hn (Nat.lt_irrefl 0)
      · cases e
    · cases e
  · cases e
/-- All mixes of n tabs, in their order. -/
def mixL (n : Nat) : List Cel := (List.range n).flatMap fun (i : Nat) => (List.range n).flatMap fun (k : Nat) => if i < k then (List.range 7).map fun (e : Nat) => ((i : Int), (k : Int), (e : Int) + 1) else []
def flat3 (l : List Cel) : List Value := l.flatMap fun c => [.int .i64 c.1, .int .i64 c.2.1, .int .i64 c.2.2]
end Go.Proofs
end
