/- Jobs that go through all stations backwards: for all jobs, orders and numbers the law returns true and leaves all that was there as it was, where what it reads is of bulk at most 1048576. -/
import Derived.Test.YtclmaobblnfplaaPost
import Derived.Test.YtclmaobblnfplaaBakW
import Derived.Test.YtclmaobblnfplaaOpenJobs
import Derived.JoinedCond
import Derived.JoinedAt
import Derived.WideKeyArgs
namespace Go.Proofs.Ytclmaobblnfplaa.topShadeBackwards
open Go.ChangeShapes Go.WideShapes Go.ChangeAt Go.RowKit Go.Deep
set_option maxRecDepth 100000
set_option maxHeartbeats 4000000
theorem jobs_cap {H : Type} {enc : TypeId × Value → H} {w : World} {v : Value} {d : DataW H} {p : List MemPlace} (h : DataW.Trod enc Try.prog w 0 (fun _ => true) true 22 v d p) (hv : ∃ (A : Option Addr) (n cap : Nat), v = .slice A n cap) : ∀ (A : Option Addr) (n c : Nat), v = .slice A n c → n ≤ c := by
  obtain ⟨A0, n0, c0, rfl⟩ := hv
  intro A n c e
  injection e with e1 e2 e3
  subst e1 e2 e3
  obtain ⟨fuel, hf⟩ := h
  rcases open_slice Try.underlying22 hf with ⟨hcs, hx⟩ | ⟨a, len, cap, m, n', D, Pl, hcs, hb, hl, hm, hmm, hx, hi⟩
  · simp [Value.cells] at hcs
    obtain ⟨rfl, rfl, rfl⟩ := hcs
    exact Nat.le_refl _
  · simp [Value.cells] at hcs
    obtain ⟨rfl, rfl, rfl⟩ := hcs
    exact hl
theorem own : ownKnob Try.prog.godebug = none := by kernel_rfl
theorem laid : laidOutB Try.prog = true := by kernel_rfl
theorem lifted (os : Os) (started : os.Started) (H : Type) (enc : TypeId × Value → H) (F0 : Stop.Interp) :
    ReturnsInHanded {} Try.checked os 3 .any ((Rows.OpenSpec.upto Rows.topShadeBackwardsSpec).pre6 enc Try.prog Try.f3 Rows.topShadeBackwardsUptoRow.domain false) (((Rows.OpenSpec.upto Rows.topShadeBackwardsSpec).at F0).post enc Try.prog Try.f3 false true false false) := by
  refine returnsInHanded_of_cond (C := Try.checked) (s := Rows.OpenSpec.upto Rows.topShadeBackwardsSpec) (k := Rows.uptoSmall) rfl own started (by kernel_rfl) Try.func3
    (OpenSpec.witness (enc := enc) (C := Try.checked) (s := Rows.OpenSpec.upto Rows.topShadeBackwardsSpec) (k := Rows.uptoSmall) rfl false ⟨#[], #[.slice none 0 0, .slice none 0 0, .int .u8 0], []⟩ 8 (by kernel_rfl) (by kernel_rfl) (by kernel_rfl)
      (x := ([.nil, .nil, .lit (.int .u8 0)], [], [])) (by kernel_rfl) (by kernel_rfl) (by kernel_rfl)) ?_
  intro W base args ds gs before hval0 hW _ hk _
  have hval : ∀ (j : Nat) t v, Try.f3.params[j]? = some t → args[j]? = some v → Value.okWide Try.prog W .any base t v := hval0
  have hW' := hW
  obtain ⟨p, q, hA0, hV, rfl, -, -⟩ := hW
  have hA : DataW.TrodAll enc Try.prog W 0 (fun _ => true) true Try.f3.params.toList args.toList ds p := hA0
  rw [Try.params3] at hA hval
  obtain ⟨v0, vs0, d0, ds0, p0, q0, hargs, rfl, rfl, h0, r0⟩ := trodAll_cons hA
  obtain ⟨v1, vs1, d1, ds1, p1, q1, rfl, rfl, rfl, h1, r1⟩ := trodAll_cons r0
  obtain ⟨v2, vs2, d2, ds2, p2, q2, rfl, rfl, rfl, h2, r2⟩ := trodAll_cons r1
  obtain ⟨rfl, rfl, rfl⟩ := trodAll_nil r2
  obtain rfl : args = #[v0, v1, v2] := by cases args; simp_all
  obtain ⟨rfl, rfl⟩ := trodVars_none hV
  have hv0 := okWide_slice Try.underlying22 (hval 0 22 v0 rfl rfl)
  obtain ⟨L, J, hsl, hin, hbl, hcap⟩ := open_jobs h0 hv0
  have hvc := jobs_cap h0 hv0
  obtain ⟨o, hso⟩ := open_ints h1 (okWide_slice Try.underlying23 (hval 1 23 v1 rfl rfl))
  obtain ⟨mo, rfl, rfl, rfl, hmw⟩ := open_int Try.underlying5 (hval 2 5 v2 rfl rfl) h2
  have hmo : 0 ≤ mo ∧ mo ≤ 255 := by
    have hw := hmw
    simp only [Lit.wf, Bool.and_eq_true, decide_eq_true_eq] at hw
    have e0 : IntKind.min .u8 = 0 := rfl
    have e1 : IntKind.max .u8 = 255 := rfl
    rw [e0, e1] at hw
    exact hw
  have hk' := of_decide_eq_true hk
  simp only [List.append_nil, Rows.uptoBulkAll] at hk'
  refine (back_in v0 v1 L J o mo W hsl hin hcap hvc hso (by omega) hmo).mono fun e W' ⟨he, hg⟩ => ?_
  subst he
  have epl : p0 ++ (p1 ++ ([] ++ [])) ++ [] = p0 ++ (p1 ++ ([] ++ [])) := List.append_nil _
  rw [epl] at hW'
  have hlt : ∀ x ∈ p0 ++ (p1 ++ ([] ++ [])), x.block < W.heap.size := fun x hx => hW'.lt x hx
  refine ⟨_, rfl, law_post (s := (Rows.OpenSpec.upto Rows.topShadeBackwardsSpec).at F0) hW' rfl rfl Try.underlying4 rfl (fun sp hsp => ?_) hg⟩
  rw [Try.params3]
  exact trodAll_cons_mk (WideElems.Trod_stays laid (by kernel_rfl) (of_decide_eq_true (by kernel_rfl)) h0 (fun x hx => hg.same (hlt x (by simp [hx]))) (fun x hx => hsp x (by simp [hx])))
    (trodAll_cons_mk (WideElems.Trod_stays laid (by kernel_rfl) (of_decide_eq_true (by kernel_rfl)) h1 (fun x hx => hg.same (hlt x (by simp [hx]))) (fun x hx => hsp x (by simp [hx])))
      (trodAll_cons_mk (WideElems.Trod_stays laid (by kernel_rfl) (of_decide_eq_true (by kernel_rfl)) h2 (fun x hx => absurd hx (by simp)) (fun x hx => absurd hx (by simp))) trodAll_mk0))
theorem proved : Rows.TopShadeBackwardsUptoSaid :=
  OpenClaim.holds_of_cond 3 Try.f3 rfl rfl rfl rfl rfl rfl rfl ⟨rfl, rfl, rfl, rfl, rfl⟩ rfl rfl rfl rfl rfl (by kernel_rfl) Try.func3 (by kernel_rfl)
    (of_decide_eq_true (by kernel_rfl)) (by unfold Func.isWrapper; first | (rw [if_pos (by decide +kernel)]; kernel_rfl) | (rw [if_neg (by decide +kernel)]; exact ⟨rfl, rfl⟩))
    (fun os started H enc _ F0 => lifted os started H enc F0)
end Go.Proofs.Ytclmaobblnfplaa.topShadeBackwards
