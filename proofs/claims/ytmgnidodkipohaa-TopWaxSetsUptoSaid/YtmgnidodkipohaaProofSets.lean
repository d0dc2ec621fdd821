/- Cells of sets by membership, De Morgan, and the moved union: for every two sets and turn the law returns true and leaves all that was there as it was, where what it reads is of bulk at most 1048576. -/
import Derived.Test.YtmgnidodkipohaaPost
import Derived.Test.YtmgnidodkipohaaSetsIn
import Derived.Test.YtmgnidodkipohaaOpenCells
import Derived.JoinedCond
import Derived.JoinedAt
import Derived.WideKeyArgs
namespace Go.Proofs.Ytmgnidodkipohaa.topWaxSets
open Go.ChangeShapes Go.WideShapes Go.ChangeAt Go.RowKit
set_option maxRecDepth 100000
set_option maxHeartbeats 4000000
theorem own : ownKnob Try.prog.godebug = none := by kernel_rfl
theorem laid : laidOutB Try.prog = true := by kernel_rfl
theorem all_ok (a b : List Cel) (va vb : Value) (n : Int) (w : World) (ha : St w va a) (hb : St w vb b) (la : a.length ≤ 400000) (lb : b.length ≤ 400000) :
    Calls Try.prog 3 #[va, vb, .int .i64 n] w fun e w' => e = .returned (.bool true) ∧ Below w.heap.size w w' := by
  by_cases h : ∃ U, Up U ∧ (∀ c, c ∈ U ↔ c ∈ a ∨ c ∈ b) ∧ setsGate a b U n = true
  · obtain ⟨U, h1, h2, h3⟩ := h
    have hr := (gate_all h3).2.2
    have h0 : 0 ≤ n ∧ n < 24 := by
      unfold withinI at hr
      split at hr
      · cases hr
      · omega
    obtain ⟨k, rfl⟩ := Int.eq_ofNat_of_zero_le h0.1
    exact sets_in a b va vb k (by omega) w ha hb la lb U h1 h2 h3
  · refine sets_out a b va vb n w ha.1 hb.1 la lb fun out h1 h2 => ?_
    cases h3 : setsGate a b out n with
    | false => rfl
    | true => exact absurd ⟨out, h1, h2, h3⟩ h
theorem lifted (os : Os) (started : os.Started) (H : Type) (enc : TypeId × Value → H) (F0 : Stop.Interp) :
    ReturnsInHanded {} Try.checked os 3 .any ((Rows.OpenSpec.upto Rows.topWaxSetsSpec).pre6 enc Try.prog Try.f3 Rows.topWaxSetsUptoRow.domain false) (((Rows.OpenSpec.upto Rows.topWaxSetsSpec).at F0).post enc Try.prog Try.f3 false true false false) := by
  refine returnsInHanded_of_cond (C := Try.checked) (s := Rows.OpenSpec.upto Rows.topWaxSetsSpec) (k := Rows.uptoSmall) rfl own started (by kernel_rfl) Try.func3
    (OpenSpec.witness (enc := enc) (C := Try.checked) (s := Rows.OpenSpec.upto Rows.topWaxSetsSpec) (k := Rows.uptoSmall) rfl false ⟨#[], #[.slice none 0 0, .slice none 0 0, .int .i64 0], []⟩ 8 (by kernel_rfl) (by kernel_rfl) (by kernel_rfl)
      (x := ([.nil, .nil, .lit (.int .i64 0)], [], [])) (by kernel_rfl) (by kernel_rfl) (by kernel_rfl)) ?_
  intro W base args ds gs before hval0 hW _ hk _
  have hval : ∀ (j : Nat) t v, Try.f3.params[j]? = some t → args[j]? = some v → Value.okWide Try.prog W .any base t v := hval0
  have hW' := hW
  obtain ⟨p, q, hA0, hV, rfl, -, -⟩ := hW
  have hA : DataW.TrodAll enc Try.prog W 0 (fun _ => true) true Try.f3.params.toList args.toList ds p := hA0
  rw [Try.params3] at hA hval
  obtain ⟨v0, vs0, d0, ds0, p0, q0, hargs, rfl, rfl, h0, r0⟩ := trodAll_cons hA
  obtain ⟨v1, vs1, d1, ds1, p1, q1, rfl, rfl, rfl, h1, r1⟩ := trodAll_cons r0
  obtain ⟨v2, vs2, d2, ds2, p2, q2, rfl, rfl, rfl, h2, r2⟩ := trodAll_cons r1
  obtain ⟨rfl, rfl, rfl⟩ := trodAll_nil r2
  obtain rfl : args = #[v0, v1, v2] := by cases args; simp_all
  obtain ⟨rfl, rfl⟩ := trodVars_none hV
  obtain ⟨a, sa, ba⟩ := open_cells h0 (okWide_slice Try.underlying22 (hval 0 22 v0 rfl rfl))
  obtain ⟨b, sb, bb⟩ := open_cells h1 (okWide_slice Try.underlying22 (hval 1 22 v1 rfl rfl))
  obtain ⟨a2, rfl, rfl, rfl, w2⟩ := open_int Try.underlying3 (hval 2 3 v2 rfl rfl) h2
  have hk' : Rows.uptoBulkAll [d0, d1, .lit (.int .i64 a2)] ≤ 1048576 := of_decide_eq_true hk
  simp only [Rows.uptoBulkAll] at hk'
  refine (all_ok a b v0 v1 a2 W sa sb (by omega) (by omega)).mono fun e W' ⟨he, hg⟩ => ?_
  subst he
  have epl : p0 ++ (p1 ++ (([] : List MemPlace) ++ [])) ++ [] = p0 ++ (p1 ++ ([] ++ [])) := List.append_nil _
  rw [epl] at hW'
  have hlt : ∀ x ∈ p0 ++ (p1 ++ ([] ++ [])), x.block < W.heap.size := fun x hx => hW'.lt x hx
  refine ⟨_, rfl, law_post (s := (Rows.OpenSpec.upto Rows.topWaxSetsSpec).at F0) hW' rfl rfl Try.underlying4 rfl (fun sp hsp => ?_) hg⟩
  rw [Try.params3]
  exact trodAll_cons_mk (WideElems.Trod_stays laid (by kernel_rfl) (of_decide_eq_true (by kernel_rfl)) h0 (fun x hx => hg.same (hlt x (by simp [hx]))) (fun x hx => hsp x (by simp [hx])))
    (trodAll_cons_mk (WideElems.Trod_stays laid (by kernel_rfl) (of_decide_eq_true (by kernel_rfl)) h1 (fun x hx => hg.same (hlt x (by simp [hx]))) (fun x hx => hsp x (by simp [hx])))
      (trodAll_cons_mk (shut_int Try.underlying3 w2) trodAll_mk0))
theorem proved : Rows.TopWaxSetsUptoSaid :=
  OpenClaim.holds_of_cond 3 Try.f3 rfl rfl rfl rfl rfl rfl rfl ⟨rfl, rfl, rfl, rfl, rfl⟩ rfl rfl rfl rfl rfl (by kernel_rfl) Try.func3 (by kernel_rfl)
    (of_decide_eq_true (by kernel_rfl)) (by unfold Func.isWrapper; first | (rw [if_pos (by decide +kernel)]; kernel_rfl) | (rw [if_neg (by decide +kernel)]; exact ⟨rfl, rfl⟩))
    (fun os started H enc _ F0 => lifted os started H enc F0)
end Go.Proofs.Ytmgnidodkipohaa.topWaxSets
