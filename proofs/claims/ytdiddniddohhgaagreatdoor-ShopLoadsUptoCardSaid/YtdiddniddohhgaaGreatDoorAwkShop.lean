import Derived.Test.YtdiddniddohhgaaGreatDoorFewC
import Derived.Test.YtdiddniddohhgaaGreatDoorAwkS
section
/- The fixed examples of chapter 9: Fewest of three items as a summary for the machine. -/
namespace Go.Proofs
open Go.AM Go.RowKit Go.MapKept
set_option maxRecDepth 1000000
set_option maxHeartbeats 4000000
noncomputable def isVb (v : Option Value) (u : Value) : Bool := match u with
  | .string s => isSb v s
  | .int .i64 n => isIb v n
  | _ => false
theorem isVb_spec {v : Option Value} {u : Value} (h : isVb v u = true) : v = some u := by
  unfold isVb at h
  split at h
  · exact isSb_spec h
  · exact isIb_spec h
  · cases h
noncomputable def allVb (c : ACells) : Nat → List Value → Bool
  | _, [] => true
  | o, x :: l => isVb (c.at o) x && allVb c (o + 1) l
theorem allVb_spec {c : ACells} : ∀ {o : Nat} {l : List Value}, allVb c o l = true → ∀ i x, l[i]? = some x → c.at (o + i) = some x
  | o, [], _, i, x, hi => by simp at hi
  | o, y :: l, h, 0, x, hi => by
    unfold allVb at h
    rw [Bool.and_eq_true] at h
    obtain rfl : y = x := by simpa using hi
    exact isVb_spec h.1
  | o, y :: l, h, i + 1, x, hi => by
    unfold allVb at h
    rw [Bool.and_eq_true] at h
    have := allVb_spec h.2 i x (by simpa using hi)
    rw [show o + (i + 1) = o + 1 + i by omega]
    exact this
noncomputable def sumFew (F : FuncId) (S : Sum) : Sum := fun f args h => bif Nat.beq f F then (match args with
  | [.slice (some ⟨b, o, none⟩) n c', .int .i64 x] => match h.get b with
    | some (.cells c) => bif (Nat.beq n 3 && Nat.ble n c') && (eqI x 5 && allVb c o itemsV) then some (.tuple #[.int .i64 2, .int .i64 0], h) else none
    | _ => none
  | _ => none) else S f args h
theorem sumFew_ok {S : Sum} (hS : SumOk Tryz.prog S) : SumOk Tryz.prog (sumFew 10 S) := by
  intro f args h v h' e
  unfold sumFew at e
  cases hf : Nat.beq f 10 with
  | false => rw [hf] at e; exact hS _ _ _ _ _ e
  | true =>
    obtain rfl := Nat.eq_of_beq_eq_true hf
    rw [hf] at e
    simp only [cond_true] at e
    split at e
    · rename_i b o n c' x
      split at e
      · rename_i c hg
        cases hc : ((Nat.beq n 3 && Nat.ble n c') && (eqI x 5 && allVb c o itemsV)) with
        | false => rw [hc] at e; cases e
        | true =>
          rw [hc] at e
          simp only [Bool.and_eq_true] at hc
          obtain ⟨⟨q0, q1⟩, q2, q3⟩ := hc
          obtain rfl := Nat.eq_of_beq_eq_true q0
          rw [eqI_eq] at q2
          obtain rfl := of_decide_eq_true q2
          have hn3 : 3 ≤ c' := Nat.le_of_ble_eq_true q1
          simp only [cond_true, Option.some.injEq, Prod.mk.injEq] at e
          obtain ⟨rfl, rfl⟩ := e
          refine ⟨⟨_, _, Tryz.func10, rfl⟩, fun θ w args' k r ha => ?_⟩
          obtain ⟨x', y', rfl, hx, hy⟩ := l2_inv ha
          cases hy
          obtain ⟨-, hbl, hor⟩ := r.obj b _ hg
          have hcr : CRel Tryz.prog θ (θ.f b) c w := hor
          have hat : ∀ (i : Nat) (v : Value), itemsV[i]? = some v → w.cell? ⟨(θ.f b).blk, i + (o + (θ.f b).sh), none⟩ = some v := fun i v hi => by
            obtain ⟨u, hu, hr⟩ := hcr.at_ (o + i) _ (allVb_spec q3 i v hi)
            have hfl : flat v = true := List.all_eq_true.1 (show itemsV.all flat = true from rfl) v (List.mem_of_getElem? hi)
            rw [flat_eq hfl hr] at hu
            rw [show i + (o + (θ.f b).sh) = o + i + (θ.f b).sh by omega]
            exact hu
          have fin : ∀ x', x' = Value.slice (some ⟨(θ.f b).blk, o + (θ.f b).sh, none⟩) 3 c' ∨ (∃ cc, 3 ≤ cc ∧ x' = Value.slice (some ⟨(θ.f b).blk, o + (θ.f b).sh, none⟩) 3 cc) → Calls Tryz.prog 10 #[x', .int .i64 5] w fun e w' => e = .returned (.tuple #[.int .i64 2, .int .i64 0]) ∧ Below w.heap.size w w' := by
            rintro x' (rfl | ⟨cc, h3, rfl⟩)
            · exact fewest_ok hn3 hbl hat
            · exact fewest_ok h3 hbl hat
          have hcon := fin x' (by
            cases hx with
            | slice _ _ => exact .inl rfl
            | sliceO _ h2 _ => exact .inr ⟨_, h2, rfl⟩)
          refine (callsIn_wide (n := k)).2 (hcon.mono ?_)
          rintro e' w' ⟨rfl, hbel⟩
          obtain ⟨p, q⟩ := r.below hbel
          exact ⟨_, θ, rfl, flat_rel rfl, p, q⟩
      · cases e
    · cases e
noncomputable def sumF : Sum := sumFew 10 sumS
theorem sumF_ok : SumOk Tryz.prog sumF := sumFew_ok sumS_ok
end Go.Proofs
end

section
namespace Go.Proofs
open Go.AM Go.RowKit
set_option maxRecDepth 1000000
noncomputable def q_h1A : List Value := [.agg #[.int .i64 40, .int .i64 10, .int .i64 820, .int .i64 820], .string ⟨#[52, 53]⟩]
noncomputable def q_h1R : Value := .tuple #[.string ⟨#[56, 50, 48]⟩, .int .i64 0]
theorem q_h1 : (callF Tryz.prog sumT 100000 57 q_h1A (hG gN gRows)).map (·.1) = some q_h1R := by kernel_rfl
end Go.Proofs
end

section
namespace Go.Proofs
open Go.AM Go.RowKit
set_option maxRecDepth 1000000
noncomputable def q_s0A : List Value := [.agg #[.int .i64 0, .int .i64 40, .int .i64 20, .int .i64 820], .int .i64 420]
noncomputable def q_s0R : Value := .string ⟨#[50, 48]⟩
theorem q_s0 : (callF Tryz.prog sumT 100000 109 q_s0A (hG gN gRows)).map (·.1) = some q_s0R := by kernel_rfl
noncomputable def q_s1A : List Value := [.agg #[.int .i64 40, .int .i64 10, .int .i64 820, .int .i64 820], .int .i64 420]
noncomputable def q_s1R : Value := .string ⟨#[49, 48]⟩
theorem q_s1 : (callF Tryz.prog sumT 100000 109 q_s1A (hG gN gRows)).map (·.1) = some q_s1R := by kernel_rfl
noncomputable def q_s2A : List Value := [.agg #[.int .i64 50, .int .i64 80, .int .i64 820, .int .i64 20], .int .i64 420]
noncomputable def q_s2R : Value := .string ⟨#[52, 48]⟩
theorem q_s2 : (callF Tryz.prog sumT 100000 109 q_s2A (hG gN gRows)).map (·.1) = some q_s2R := by kernel_rfl
noncomputable def q_s3A : List Value := [.agg #[.int .i64 0, .int .i64 40, .int .i64 20, .int .i64 820], .int .i64 820]
noncomputable def q_s3R : Value := .string ⟨#[48]⟩
theorem q_s3 : (callF Tryz.prog sumT 100000 109 q_s3A (hG gN gRows)).map (·.1) = some q_s3R := by kernel_rfl
noncomputable def q_s4A : List Value := [.agg #[.int .i64 40, .int .i64 10, .int .i64 820, .int .i64 820], .int .i64 820]
noncomputable def q_s4R : Value := .string ⟨#[49, 48]⟩
theorem q_s4 : (callF Tryz.prog sumT 100000 109 q_s4A (hG gN gRows)).map (·.1) = some q_s4R := by kernel_rfl
noncomputable def q_s5A : List Value := [.agg #[.int .i64 50, .int .i64 80, .int .i64 820, .int .i64 20], .int .i64 820]
noncomputable def q_s5R : Value := .string ⟨#[48]⟩
theorem q_s5 : (callF Tryz.prog sumT 100000 109 q_s5A (hG gN gRows)).map (·.1) = some q_s5R := by kernel_rfl
end Go.Proofs
end

section
namespace Go.Proofs
open Go.AM Go.RowKit
set_option maxRecDepth 1000000
noncomputable def q_r0A : List Value := [.agg #[.int .i64 0, .int .i64 40, .int .i64 20, .int .i64 820]]
noncomputable def q_r0R : Value := .string ⟨#[50, 48]⟩
theorem q_r0 : (callF Tryz.prog sumT 100000 110 q_r0A (hG gN gRows)).map (·.1) = some q_r0R := by kernel_rfl
noncomputable def q_r1A : List Value := [.agg #[.int .i64 40, .int .i64 10, .int .i64 820, .int .i64 820]]
noncomputable def q_r1R : Value := .string ⟨#[48]⟩
theorem q_r1 : (callF Tryz.prog sumT 100000 110 q_r1A (hG gN gRows)).map (·.1) = some q_r1R := by kernel_rfl
noncomputable def q_r2A : List Value := [.agg #[.int .i64 50, .int .i64 80, .int .i64 820, .int .i64 20]]
noncomputable def q_r2R : Value := .string ⟨#[49, 48]⟩
theorem q_r2 : (callF Tryz.prog sumT 100000 110 q_r2A (hG gN gRows)).map (·.1) = some q_r2R := by kernel_rfl
noncomputable def q_a0A : List Value := [.string ⟨#[48]⟩, .string ⟨#[50, 48]⟩]
noncomputable def q_a0R : Value := .tuple #[.string ⟨#[50, 48]⟩, .int .i64 0]
theorem q_a0 : (callF Tryz.prog sumT 100000 108 q_a0A (hG gN gRows)).map (·.1) = some q_a0R := by kernel_rfl
noncomputable def q_a1A : List Value := [.string ⟨#[50, 48]⟩, .string ⟨#[49, 48]⟩]
noncomputable def q_a1R : Value := .tuple #[.string ⟨#[51, 48]⟩, .int .i64 0]
theorem q_a1 : (callF Tryz.prog sumT 100000 108 q_a1A (hG gN gRows)).map (·.1) = some q_a1R := by kernel_rfl
noncomputable def q_a2A : List Value := [.string ⟨#[51, 48]⟩, .string ⟨#[52, 48]⟩]
noncomputable def q_a2R : Value := .tuple #[.string ⟨#[55, 48]⟩, .int .i64 0]
theorem q_a2 : (callF Tryz.prog sumT 100000 108 q_a2A (hG gN gRows)).map (·.1) = some q_a2R := by kernel_rfl
noncomputable def q_a3A : List Value := [.string ⟨#[48]⟩, .string ⟨#[48]⟩]
noncomputable def q_a3R : Value := .tuple #[.string ⟨#[48]⟩, .int .i64 0]
theorem q_a3 : (callF Tryz.prog sumT 100000 108 q_a3A (hG gN gRows)).map (·.1) = some q_a3R := by kernel_rfl
noncomputable def q_a4A : List Value := [.string ⟨#[48]⟩, .string ⟨#[49, 48]⟩]
noncomputable def q_a4R : Value := .tuple #[.string ⟨#[49, 48]⟩, .int .i64 0]
theorem q_a4 : (callF Tryz.prog sumT 100000 108 q_a4A (hG gN gRows)).map (·.1) = some q_a4R := by kernel_rfl
noncomputable def q_a5A : List Value := [.string ⟨#[49, 48]⟩, .string ⟨#[48]⟩]
noncomputable def q_a5R : Value := .tuple #[.string ⟨#[49, 48]⟩, .int .i64 0]
theorem q_a5 : (callF Tryz.prog sumT 100000 108 q_a5A (hG gN gRows)).map (·.1) = some q_a5R := by kernel_rfl
end Go.Proofs
end

section
/- The fixed examples of chapter 9 hold, from any world in which the table of powers of ten is as it was laid. -/
namespace Go.Proofs
open Go.AM Go.RowKit
set_option maxRecDepth 1000000
noncomputable def sum_h1 : Sum := memoG 57 q_h1A q_h1R gN gRows sumF
theorem sum_h1_ok : SumOk Tryz.prog sum_h1 := memoG_of prog_names prog_mixed sumF_ok sumT_ok (by kernel_rfl) (by kernel_rfl) gRows_flat q_h1
noncomputable def sum_s0 : Sum := memoG 109 q_s0A q_s0R gN gRows sum_h1
theorem sum_s0_ok : SumOk Tryz.prog sum_s0 := memoG_of prog_names prog_mixed sum_h1_ok sumT_ok (by kernel_rfl) (by kernel_rfl) gRows_flat q_s0
noncomputable def sum_s1 : Sum := memoG 109 q_s1A q_s1R gN gRows sum_s0
theorem sum_s1_ok : SumOk Tryz.prog sum_s1 := memoG_of prog_names prog_mixed sum_s0_ok sumT_ok (by kernel_rfl) (by kernel_rfl) gRows_flat q_s1
noncomputable def sum_s2 : Sum := memoG 109 q_s2A q_s2R gN gRows sum_s1
theorem sum_s2_ok : SumOk Tryz.prog sum_s2 := memoG_of prog_names prog_mixed sum_s1_ok sumT_ok (by kernel_rfl) (by kernel_rfl) gRows_flat q_s2
noncomputable def sum_s3 : Sum := memoG 109 q_s3A q_s3R gN gRows sum_s2
theorem sum_s3_ok : SumOk Tryz.prog sum_s3 := memoG_of prog_names prog_mixed sum_s2_ok sumT_ok (by kernel_rfl) (by kernel_rfl) gRows_flat q_s3
noncomputable def sum_s4 : Sum := memoG 109 q_s4A q_s4R gN gRows sum_s3
theorem sum_s4_ok : SumOk Tryz.prog sum_s4 := memoG_of prog_names prog_mixed sum_s3_ok sumT_ok (by kernel_rfl) (by kernel_rfl) gRows_flat q_s4
noncomputable def sum_s5 : Sum := memoG 109 q_s5A q_s5R gN gRows sum_s4
theorem sum_s5_ok : SumOk Tryz.prog sum_s5 := memoG_of prog_names prog_mixed sum_s4_ok sumT_ok (by kernel_rfl) (by kernel_rfl) gRows_flat q_s5
noncomputable def sum_r0 : Sum := memoG 110 q_r0A q_r0R gN gRows sum_s5
theorem sum_r0_ok : SumOk Tryz.prog sum_r0 := memoG_of prog_names prog_mixed sum_s5_ok sumT_ok (by kernel_rfl) (by kernel_rfl) gRows_flat q_r0
noncomputable def sum_r1 : Sum := memoG 110 q_r1A q_r1R gN gRows sum_r0
theorem sum_r1_ok : SumOk Tryz.prog sum_r1 := memoG_of prog_names prog_mixed sum_r0_ok sumT_ok (by kernel_rfl) (by kernel_rfl) gRows_flat q_r1
noncomputable def sum_r2 : Sum := memoG 110 q_r2A q_r2R gN gRows sum_r1
theorem sum_r2_ok : SumOk Tryz.prog sum_r2 := memoG_of prog_names prog_mixed sum_r1_ok sumT_ok (by kernel_rfl) (by kernel_rfl) gRows_flat q_r2
noncomputable def sum_a0 : Sum := memoG 108 q_a0A q_a0R gN gRows sum_r2
theorem sum_a0_ok : SumOk Tryz.prog sum_a0 := memoG_of prog_names prog_mixed sum_r2_ok sumT_ok (by kernel_rfl) (by kernel_rfl) gRows_flat q_a0
noncomputable def sum_a1 : Sum := memoG 108 q_a1A q_a1R gN gRows sum_a0
theorem sum_a1_ok : SumOk Tryz.prog sum_a1 := memoG_of prog_names prog_mixed sum_a0_ok sumT_ok (by kernel_rfl) (by kernel_rfl) gRows_flat q_a1
noncomputable def sum_a2 : Sum := memoG 108 q_a2A q_a2R gN gRows sum_a1
theorem sum_a2_ok : SumOk Tryz.prog sum_a2 := memoG_of prog_names prog_mixed sum_a1_ok sumT_ok (by kernel_rfl) (by kernel_rfl) gRows_flat q_a2
noncomputable def sum_a3 : Sum := memoG 108 q_a3A q_a3R gN gRows sum_a2
theorem sum_a3_ok : SumOk Tryz.prog sum_a3 := memoG_of prog_names prog_mixed sum_a2_ok sumT_ok (by kernel_rfl) (by kernel_rfl) gRows_flat q_a3
noncomputable def sum_a4 : Sum := memoG 108 q_a4A q_a4R gN gRows sum_a3
theorem sum_a4_ok : SumOk Tryz.prog sum_a4 := memoG_of prog_names prog_mixed sum_a3_ok sumT_ok (by kernel_rfl) (by kernel_rfl) gRows_flat q_a4
noncomputable def sum_a5 : Sum := memoG 108 q_a5A q_a5R gN gRows sum_a4
theorem sum_a5_ok : SumOk Tryz.prog sum_a5 := memoG_of prog_names prog_mixed sum_a4_ok sumT_ok (by kernel_rfl) (by kernel_rfl) gRows_flat q_a5
theorem awake9_runs : (callF Tryz.prog sum_a5 100000 7 [] (hG gN gRows)).map (·.1) = some (.bool true) := by kernel_rfl
theorem awake9_ok (w : World) (hw : GOk gN gRows w) : Calls Tryz.prog 7 #[] w fun e w' => e = .returned (.bool true) ∧ Below w.heap.size w w' :=
  closed_flatG prog_names prog_mixed sum_a5_ok hw awake9_runs rfl (by kernel_rfl)
end Go.Proofs
end
