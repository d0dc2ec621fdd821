/- A part that gets out along a direction shares no cell with the base after any number of steps, and one that is stuck does so first after the steps that are told, at the cell that is told: for every two lists of cells, every number and every direction the law returns true and leaves all that was there as it was. No condition. -/
import Derived.Test.YtllameiilljelaaCheckV
import Derived.Test.YtllameiilljelaaStG
import Derived.Test.YtllameiilljelaaSliA
import Derived.Test.YtllameiilljelaaSliB
import Derived.Test.YtllameiilljelaaOpenPose
import Derived.JoinedAt
import Derived.WideKeyArgs
namespace Go.Proofs.Ytllameiilljelaa.topPlasterSlides
open Go.ChangeShapes Go.WideShapes Go.ChangeAt Go.RowKit
set_option maxRecDepth 100000
set_option maxHeartbeats 4000000
theorem own : ownKnob Try.prog.godebug = none := by kernel_rfl
theorem laid : laidOutB Try.prog = true := by kernel_rfl
theorem all_ok (a b : List Cel) (va vb : Value) (F x y z : Int) (w : World) (ha : St w va a) (hb : St w vb b) :
    Calls Try.prog 3 #[.agg #[va, vb, .int .i64 F], .agg #[.int .i64 x, .int .i64 y, .int .i64 z]] w fun e w' => e = .returned (.bool true) ∧ Below w.heap.size w w' := by
  cases h : sliGate a b F (x, y, z) with
  | true => exact sli_in a b va vb F x y z w (plasterRing_ok w) ha.1 hb h
  | false =>
    refine sli_out a b va vb F x y z w (plasterRing_ok w) ha.1 hb.1 ?_ ?_ h
    · obtain ⟨_, A, cap, _, h2, h3⟩ := ha
      unfold maxLen
      omega
    · obtain ⟨_, A, cap, _, h2, h3⟩ := hb
      unfold maxLen
      omega
theorem lifted (os : Os) (started : os.Started) (H : Type) (enc : TypeId × Value → H) :
    ReturnsInHanded {} Try.checked os 3 .any (Rows.topPlasterSlidesSpec.pre6 enc Try.prog Try.f3 Rows.topPlasterSlidesRow.domain false) (Rows.topPlasterSlidesSpec.post enc Try.prog Try.f3 false true false false) := by
  refine returnsInHanded_of_change (C := Try.checked) own started (by kernel_rfl) Try.func3
    (ChangeSpec.witness6 (enc := enc) (C := Try.checked) false ⟨#[], #[.agg #[.slice none 0 0, .slice none 0 0, .int .i64 0], .agg #[.int .i64 0, .int .i64 0, .int .i64 0]], []⟩ 8 (by kernel_rfl) (by kernel_rfl) (by kernel_rfl) (by kernel_rfl)) ?_
  intro W base args ds gs before hval0 hW _ _
  have hval : ∀ (j : Nat) t v, Try.f3.params[j]? = some t → args[j]? = some v → Value.okWide Try.prog W .any base t v := hval0
  have hW' := hW
  obtain ⟨p, q, hA0, hV, rfl, -, -⟩ := hW
  have hA : DataW.TrodAll enc Try.prog W 0 (fun _ => true) true Try.f3.params.toList args.toList ds p := hA0
  rw [Try.params3] at hA hval
  obtain ⟨v0, vs0, d0, ds0, p0, q0, hargs, rfl, rfl, h0, r0⟩ := trodAll_cons hA
  obtain ⟨v1, vs1, d1, ds1, p1, q1, rfl, rfl, rfl, h1, r1⟩ := trodAll_cons r0
  obtain ⟨rfl, rfl, rfl⟩ := trodAll_nil r1
  obtain rfl : args = #[v0, v1] := by cases args; simp_all
  obtain ⟨rfl, rfl⟩ := trodVars_none hV
  obtain ⟨va, vb, F, a, b, rfl, sa, sb⟩ := open_pose h0 (okWide_struct Try.underlying24 (hval 0 24 v0 rfl rfl))
  obtain ⟨x, y, z, rfl⟩ := open_cel h1 (okWide_struct Try.underlying26 (hval 1 26 v1 rfl rfl))
  refine (all_ok a b va vb F x y z W sa sb).mono fun e W' ⟨he, hg⟩ => ?_
  subst he
  have epl : p0 ++ (p1 ++ ([] : List MemPlace)) ++ [] = p0 ++ (p1 ++ []) := List.append_nil _
  rw [epl] at hW'
  have hlt : ∀ x ∈ p0 ++ (p1 ++ []), x.block < W.heap.size := fun x hx => hW'.lt x hx
  refine ⟨_, rfl, law_post (s := Rows.topPlasterSlidesSpec) hW' rfl rfl Try.underlying4 rfl (fun sp hsp => ?_) hg⟩
  rw [Try.params3]
  exact trodAll_cons_mk (WideElems.Trod_stays laid (by kernel_rfl) (of_decide_eq_true (by kernel_rfl)) h0 (fun x hx => hg.same (hlt x (by simp [hx]))) (fun x hx => hsp x (by simp [hx])))
    (trodAll_cons_mk (WideElems.Trod_stays laid (by kernel_rfl) (of_decide_eq_true (by kernel_rfl)) h1 (fun x hx => hg.same (hlt x (by simp [hx]))) (fun x hx => hsp x (by simp [hx])))
      trodAll_mk0)
theorem proved : Rows.TopPlasterSlidesSaid :=
  OpenClaim.holds_of_wide 3 Try.f3 rfl rfl rfl rfl rfl rfl rfl ⟨rfl, rfl, rfl, rfl, rfl⟩ rfl rfl rfl rfl rfl (by kernel_rfl) Try.func3 (by kernel_rfl)
    (of_decide_eq_true (by kernel_rfl)) (by unfold Func.isWrapper; first | (rw [if_pos (by decide +kernel)]; kernel_rfl) | (rw [if_neg (by decide +kernel)]; exact ⟨rfl, rfl⟩))
    (fun os started H enc _ => lifted os started H enc)
end Go.Proofs.Ytllameiilljelaa.topPlasterSlides
