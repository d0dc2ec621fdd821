import Derived.Test.YtpickbchpnbffaaGreatCheckV
import Derived.Test.YtpickbchpnbffaaGreatClsA
import Derived.Test.YtpickbchpnbffaaGreatOpenBite
import Derived.JoinedAt
import Derived.WideKeyArgs
/- At each position of a bite the lower set is the one that the grid shifts, hits and contacts are what the grid's cuts tell, and the state is told by the distance: for every bite the law returns true and leaves all that was there as it was. No condition. -/
namespace Go.Proofs.YtpickbchpnbffaaGreat.topTrayMeets
open Go.ChangeShapes Go.WideShapes Go.ChangeAt Go.RowKit
set_option maxRecDepth 100000
set_option maxHeartbeats 4000000
theorem own : ownKnob Tryz.prog.godebug = none := by kernel_rfl
theorem laid : laidOutB Tryz.prog = true := by kernel_rfl
theorem lifted (os : Os) (started : os.Started) (H : Type) (enc : TypeId × Value → H) :
    ReturnsInHanded {} Tryz.checked os 3 .any (Rows.topTrayMeetsSpec.pre6 enc Tryz.prog Tryz.f3 Rows.topTrayMeetsRow.domain false) (Rows.topTrayMeetsSpec.post enc Tryz.prog Tryz.f3 false true false false) := by
  refine returnsInHanded_of_change (C := Tryz.checked) own started (by kernel_rfl) Tryz.func3
    (ChangeSpec.witness6 (enc := enc) (C := Tryz.checked) false ⟨#[], #[.agg #[.slice none 0 0, .slice none 0 0, .slice none 0 0]], []⟩ 8 (by kernel_rfl) (by kernel_rfl) (by kernel_rfl) (by kernel_rfl)) ?_
  intro W base args ds gs before hval0 hW _ _
  have hval : ∀ (j : Nat) t v, Tryz.f3.params[j]? = some t → args[j]? = some v → Value.okWide Tryz.prog W .any base t v := hval0
  have hW' := hW
  obtain ⟨p, q, hA0, hV, rfl, -, -⟩ := hW
  have hA : DataW.TrodAll enc Tryz.prog W 0 (fun _ => true) true Tryz.f3.params.toList args.toList ds p := hA0
  rw [Tryz.params3] at hA hval
  obtain ⟨v0, vs0, d0, ds0, p0, q0, hargs, rfl, rfl, h0, r0⟩ := trodAll_cons hA
  obtain ⟨rfl, rfl, rfl⟩ := trodAll_nil r0
  obtain rfl : args = #[v0] := by cases args; simp_all
  obtain ⟨rfl, rfl⟩ := trodVars_none hV
  obtain ⟨va, vb, vc, a, b, c, rfl, sa, sb, sc⟩ := open_bite h0 (okWide_struct Tryz.underlying24 (hval 0 24 v0 rfl rfl))
  refine (meets_all a b c va vb vc W (fun V _ => trayClosed_ok V) sa sb sc).mono fun e W' ⟨he, hg⟩ => ?_
  subst he
  have epl : p0 ++ ([] : List MemPlace) ++ [] = p0 ++ [] := List.append_nil _
  rw [epl] at hW'
  have hlt : ∀ x ∈ p0 ++ [], x.block < W.heap.size := fun x hx => hW'.lt x hx
  refine ⟨_, rfl, law_post (s := Rows.topTrayMeetsSpec) hW' rfl rfl Tryz.underlying4 rfl (fun sp hsp => ?_) hg⟩
  rw [Tryz.params3]
  exact trodAll_cons_mk (WideElems.Trod_stays laid (by kernel_rfl) (of_decide_eq_true (by kernel_rfl)) h0 (fun x hx => hg.same (hlt x (by simp [hx]))) (fun x hx => hsp x (by simp [hx])))
    trodAll_mk0
theorem proved : Rows.TopTrayMeetsSaid :=
  OpenClaim.holds_of_wide 3 Tryz.f3 rfl rfl rfl rfl rfl rfl rfl ⟨rfl, rfl, rfl, rfl, rfl⟩ rfl rfl rfl rfl rfl (by kernel_rfl) Tryz.func3 (by kernel_rfl)
    (of_decide_eq_true (by kernel_rfl)) (by unfold Func.isWrapper; first | (rw [if_pos (by decide +kernel)]; kernel_rfl) | (rw [if_neg (by decide +kernel)]; exact ⟨rfl, rfl⟩))
    (fun os started H enc _ => lifted os started H enc)
end Go.Proofs.YtpickbchpnbffaaGreat.topTrayMeets
