/- What the schedules, the bound and the lists of the program are, the law says: for all jobs, orders and picks the law returns true and leaves all that was there as it was, where what it reads is of bulk at most 1048576; and the listed tables read as the program's own text lays them. -/
import Derived.Test.YtokfniicbeemdaaGreatDoorPost
import Derived.Test.YtokfniicbeemdaaGreatDoorLaidS
import Derived.Test.YtokfniicbeemdaaGreatDoorFloW
import Derived.Test.YtokfniicbeemdaaGreatDoorSumB
import Derived.Test.YtokfniicbeemdaaGreatDoorCards
import Derived.Test.YtokfniicbeemdaaGreatDoorTie
import Derived.Deep.Slices
import Derived.Deep.Fields
import Derived.JoinedCond
import Derived.JoinedAt
import Derived.WideKeyArgs
import Derived.LaidMore
import Derived.Deep.DeepHandedRow
namespace Go.Proofs.YtokfniicbeemdaaGreatDoor.shopFlows
open Go.ChangeShapes Go.WideShapes Go.ChangeAt Go.RowKit Go.Deep
set_option maxRecDepth 100000
set_option maxHeartbeats 4000000
theorem okWide_arr {P : Program} {w : World} {r : Reach} {base n : Nat} {t e : TypeId} {v : Value} (ht : P.underlying t = some (.array n e)) (h : Value.okWide P w r base t v) : ∃ cs, v = .agg cs ∧ cs.size = P.cellsOf t := by
  simp only [Value.okWide, ht] at h
  obtain ⟨cs, h1, h2, _⟩ := h
  exact ⟨cs, h1, h2⟩
theorem open_u8 {H : Type} {enc : TypeId × Value → H} {w : World} {n : Nat} {u : Value} {y : DataW H × List MemPlace} (h : DataW.trod enc Tryz.prog w 0 (fun _ => true) true n 5 [u] = some y) : ∃ x : Int, u = .int .u8 x ∧ 0 ≤ x ∧ x ≤ 255 := by
  obtain ⟨x, hx, _, hw⟩ := DataW.trod_int Tryz.underlying5 h
  refine ⟨x, by simpa using hx, ?_⟩
  simp only [Lit.wf, Bool.and_eq_true, decide_eq_true_eq] at hw
  have e0 : IntKind.min .u8 = 0 := rfl
  have e1 : IntKind.max .u8 = 255 := rfl
  rw [e0, e1] at hw
  exact hw
theorem open_pick {H : Type} {enc : TypeId × Value → H} {w : World} {v : Value} {d : DataW H} {p : List MemPlace} (h : DataW.Trod enc Tryz.prog w 0 (fun _ => true) true 68 v d p) (hv : ∃ cs, v = .agg cs ∧ cs.size = Tryz.prog.cellsOf 68) :
    ∃ a b : Int, v = .agg #[.int .u8 a, .int .u8 b] ∧ (0 ≤ a ∧ a ≤ 255) ∧ (0 ≤ b ∧ b ≤ 255) := by
  obtain ⟨cs, rfl, hsz⟩ := hv
  obtain ⟨fuel, hf⟩ := h
  have h2 : Tryz.prog.cellsOf 68 = 2 := by kernel_rfl
  have h1 : Tryz.prog.cellsOf 5 = 1 := by kernel_rfl
  obtain ⟨l⟩ := cs
  match l, hsz.trans h2 with
  | [c0, c1], _ =>
    obtain ⟨xs, m, _, _, _, hlen, hg⟩ := DataW.trod_array Tryz.underlying68 hf
    have g0 := hg 0 (by omega)
    have g1 := hg 1 (by omega)
    rw [h1] at g0 g1
    match xs, hlen with
    | [y0, y1], _ =>
      obtain ⟨x0, rfl, h0⟩ := open_u8 (y := y0) g0
      obtain ⟨x1, rfl, h1⟩ := open_u8 (y := y1) g1
      exact ⟨x0, x1, rfl, h0, h1⟩
theorem own : ownKnob Tryz.prog.godebug = none := by kernel_rfl
theorem laid : laidOutB Tryz.prog = true := by kernel_rfl
def wit : Array Value := #[.slice none 0 0, .slice none 0 0, .agg #[.int .u8 0, .int .u8 0]]
theorem laid_met (os : Os) : laidMet Tryz.prog Rows.shopFlowsUptoRow.laid ((World.doorLaid Tryz.prog 400 os).forCall (fun _ _ => 0) ⟨#[], wit, []⟩).memory :=
  laidMet_of_run' 8 (by kernel_rfl) (by kernel_rfl)
theorem reads (os : Os) {H : Type} (enc : TypeId × Value → H) : DataW.whole enc Tryz.prog ((World.doorLaid Tryz.prog 400 os).forCall (fun _ _ => 0) ⟨#[], wit, []⟩).memory Tryz.f7.params.toList Rows.shopFlowsSpec.vars false wit.toList 8 = some ([.nil, .nil, .agg [.lit (.int .u8 0), .lit (.int .u8 0)]], [], []) := by kernel_rfl
theorem lifted (os : Os) (started : os.Started) (H : Type) (enc : TypeId × Value → H) (F0 : Stop.Interp) :
    ReturnsInHanded {} Tryz.checked os 7 .any ((Rows.OpenSpec.upto Rows.shopFlowsSpec).preRow enc Tryz.prog Tryz.f7 Rows.shopFlowsUptoRow.domain false Rows.shopFlowsUptoRow.laid) (((Rows.OpenSpec.upto Rows.shopFlowsSpec).at F0).post enc Tryz.prog Tryz.f7 false true false false) := by
  refine returnsInHanded_of_row (C := Tryz.checked) (s := Rows.OpenSpec.upto Rows.shopFlowsSpec) own started (by kernel_rfl) Tryz.func7
    (witness_row_at (enc := enc) (C := Tryz.checked) false (World.doorLaid Tryz.prog 400 os) wit rfl (by kernel_rfl) (by kernel_rfl) (by kernel_rfl)
      (OpenSpec.preRow_of_cond 8 (reads os enc) (by kernel_rfl) (fun k hk => by cases hk; kernel_rfl) (by kernel_rfl) (laid_met os))) ?_
  intro W base args ds gs before hval0 hW _ hk0 _ hL _ _
  have hk := hk0 _ rfl
  have hval : ∀ (j : Nat) t v, Tryz.f7.params[j]? = some t → args[j]? = some v → Value.okWide Tryz.prog W .any base t v := hval0
  have hW' := hW
  obtain ⟨p, q, hA0, hV, rfl, -, -⟩ := hW
  have hA : DataW.TrodAll enc Tryz.prog W 0 (fun _ => true) true Tryz.f7.params.toList args.toList ds p := hA0
  rw [Tryz.params7] at hA hval
  obtain ⟨v0, vs0, d0, ds0, p0, q0, hargs, rfl, rfl, h0, r0⟩ := trodAll_cons hA
  obtain ⟨v1, vs1, d1, ds1, p1, q1, rfl, rfl, rfl, h1, r1⟩ := trodAll_cons r0
  obtain ⟨v2, vs2, d2, ds2, p2, q2, rfl, rfl, rfl, h2, r2⟩ := trodAll_cons r1
  obtain ⟨rfl, rfl, rfl⟩ := trodAll_nil r2
  obtain rfl : args = #[v0, v1, v2] := by cases args; simp_all
  obtain ⟨rfl, rfl⟩ := trodVars_none hV
  obtain ⟨L, J, hsl, hin, hbl, hcap⟩ := open_jobs h0 (okWide_slice Tryz.underlying44 (hval 0 44 v0 rfl rfl))
  obtain ⟨o, hso⟩ := open_ints h1 (okWide_slice Tryz.underlying23 (hval 1 23 v1 rfl rfl))
  obtain ⟨pa, pb, rfl, hpa, hpb⟩ := open_pick h2 (okWide_arr Tryz.underlying68 (hval 2 68 v2 rfl rfl))
  have hk' : Rows.uptoBulkAll ([d0, d1, d2] ++ []) ≤ 1048576 := of_decide_eq_true hk
  simp only [List.append_nil, Rows.uptoBulkAll] at hk'
  have hL' : laidMet Tryz.prog Rows.shopFlowsUptoRow.laid W := by
    rwa [MakeChecks.laidMetH_plain _ _ _ (by kernel_rfl)] at hL
  have hG := gok_of (by kernel_rfl) hL'
  refine (flows_in v0 v1 L J o pa pb W hG hsl hin hcap hso (by omega) hpa hpb).mono fun e W' ⟨he, hg⟩ => ?_
  subst he
  have epl : p0 ++ (p1 ++ (p2 ++ [])) ++ [] = p0 ++ (p1 ++ (p2 ++ [])) := List.append_nil _
  rw [epl] at hW'
  have hlt : ∀ x ∈ p0 ++ (p1 ++ (p2 ++ [])), x.block < W.heap.size := fun x hx => hW'.lt x hx
  refine ⟨_, rfl, law_post (s := (Rows.OpenSpec.upto Rows.shopFlowsSpec).at F0) hW' rfl rfl Tryz.underlying4 rfl (fun sp hsp => ?_) hg⟩
  rw [Tryz.params7]
  exact trodAll_cons_mk (WideElems.Trod_stays laid (by kernel_rfl) (of_decide_eq_true (by kernel_rfl)) h0 (fun x hx => hg.same (hlt x (by simp [hx]))) (fun x hx => hsp x (by simp [hx])))
    (trodAll_cons_mk (WideElems.Trod_stays laid (by kernel_rfl) (of_decide_eq_true (by kernel_rfl)) h1 (fun x hx => hg.same (hlt x (by simp [hx]))) (fun x hx => hsp x (by simp [hx])))
      (trodAll_cons_mk (WideElems.Trod_stays laid (by kernel_rfl) (of_decide_eq_true (by kernel_rfl)) h2 (fun x hx => hg.same (hlt x (by simp [hx]))) (fun x hx => hsp x (by simp [hx]))) trodAll_mk0))
theorem row : Rows.ShopFlowsUptoSaid :=
  OpenClaim.holds_of_cond 7 Tryz.f7 rfl rfl rfl rfl rfl rfl rfl ⟨rfl, rfl, rfl, rfl, rfl⟩ rfl rfl rfl rfl rfl (by kernel_rfl) Tryz.func7 (by kernel_rfl)
    (of_decide_eq_true (by kernel_rfl)) (by unfold Func.isWrapper; first | (rw [if_pos (by decide +kernel)]; kernel_rfl) | (rw [if_neg (by decide +kernel)]; exact ⟨rfl, rfl⟩))
    (fun os started H enc _ F0 => by rw [OpenClaim.pre_eq_preRow]; exact lifted os started H enc F0)
theorem proved : Rows.ShopFlowsUptoCardSaid :=
  Claim7.holds_tied_plain_at .later [] [.data, .data, .data] true Rows.shopFlowsUptoCard.stood.harness false
    row (fun _ h => by cases h) (by kernel_rfl) (fun _ h => by cases h) shopFlowsUpto_row_tie rfl ⟨rfl, rfl⟩ (by kernel_rfl) rfl
    (fun f fn hf hfn => by
      obtain rfl : f = 7 := Option.some.inj ((show Tryz.prog.funcNamed Rows.shopFlowsUptoRow.func = some 7 by kernel_rfl).symm.trans hf) |>.symm
      obtain rfl : fn = Tryz.f7 := (Option.some.inj (Tryz.func7.symm.trans hfn)).symm
      exact ⟨by kernel_rfl, fun j t ht => by
        rw [Tryz.params7] at ht
        have hm : t ∈ [44, 23, 68] := by simpa using Array.mem_of_getElem? ht
        have hall : ([44, 23, 68].all fun u => !Tryz.prog.wantsStandIn u) = true := by kernel_rfl
        exact (show Tryz.prog.wantsStandIn t = false by simpa using List.all_eq_true.1 hall t hm)⟩)
    (by kernel_rfl)
end Go.Proofs.YtokfniicbeemdaaGreatDoor.shopFlows
