/- A region that draws its order, in a round of a range over a function: reads, and at the end one write. -/
import Derived.Test.YtfdhppdkgfioaaaGreatDoorProg
import Derived.StillTailTactics
import Derived.OrdersIn
import Derived.OwnWalkIn
import Derived.RangeFuncCalls
namespace Go.Proofs
set_option maxHeartbeats 4000000
def noCall : Op → Bool
  | .call _ => false
  | .defer _ => false
  | _ => true
/-- Only a normal end. -/
def NormQ (Q : Exit → Act → World → Prop) : Exit → Act → World → Prop
  | .normal, a, w => Q .normal a w
  | _, _, _ => False
theorem normQ_to {Q : Exit → Act → World → Prop} : ∀ {e : Exit} {a : Act} {w : World}, NormQ Q e a w → Q e a w
  | .normal, _, _, h => h
  | .exit _, _, _, h => h.elim
  | .goto _, _, _, h => h.elim
  | .ret, _, _, h => h.elim
  | .panic _, _, _, h => h.elim
  | .outgrown, _, _, h => h.elim
theorem normQ_out {Q : Exit → Act → World → Prop} (h : LetsOut (NormQ Q)) : False := by
  obtain ⟨a, w, h⟩ := h
  exact h
section
variable {P : Program} {Q : Exit → Act → World → Prop} {md : Region.Mode} {ops : Array Oper} {n l : Nat}
theorem oper_wp_in {o : Oper} {a : Act} {w : World} {K : Act → World → Prop} (hc : noCall o.op = true) (h : o.wp P a w K (NormQ Q)) : o.wpIn (Fence.wide.inRound l) n P a w K Q := by
  unfold Oper.wpIn
  refine ⟨fun f _ => trivial, ?_⟩
  rw [Oper.semAt_plain (Fence.wide.inRound l) _ _ (fun c e => by rw [e] at hc; cases hc)]
  unfold Oper.wp at h
  generalize (execOp a.eval o).run P w = r at h ⊢
  cases r with
  | ok x w' =>
    cases x <;> simp only [Oper.upon, Oper.uponIn] at h ⊢
    all_goals first
      | exact h
      | exact h.elim
      | exact ⟨fun e => by simp [Fence.wide] at e, CallsIn.inRound l (callsIn_wide.2 (h.mono fun e w'' he => by cases e with | returned v => exact he | panicked c => exact he.elim | outgrown => exact (normQ_out he).elim))⟩
      | exact ⟨fun e => by simp [Fence.wide] at e, fun c cs _ => let ⟨v, w', r, s⟩ := h c cs; ⟨v, w', r, stepsIn_wide.2 s⟩⟩
  | halt x w' => cases x <;> simp only [Oper.upon] at h <;> exact h.elim
theorem wpOp_in {i : Nat} {a : Act} {w : World} {K : Act → World → Prop} (hc : ∀ (j : Nat) (o : Oper), ops[j]? = some o → noCall o.op = true) (h : wpOp P ops (NormQ Q) i K a w) : wpOpIn (Fence.wide.inRound l) n P ops Q i K a w := by
  unfold wpOp at h
  unfold wpOpIn
  cases ho : ops[i]? with
  | none => rw [ho] at h; exact h
  | some o =>
    rw [ho] at h
    simp only at h ⊢
    by_cases hw : Region.wanted o (yielded ops a.tmps) = true
    · rw [if_pos hw] at h ⊢
      rcases h with h | h
      · exact oper_wp_in (hc i o ho) h
      · exact (normQ_out h.2).elim
    · rw [if_neg hw] at h ⊢
      exact ⟨fun f _ => trivial, h⟩
theorem wpAny_in (hc : ∀ (j : Nat) (o : Oper), ops[j]? = some o → noCall o.op = true) : ∀ (fuel : Nat) (listed : Array Bool) (a : Act) (w : World), wpAny P md ops (NormQ Q) fuel listed a w → wpAnyIn (Fence.wide.inRound l) n P md ops Q fuel listed a w
  | 0, _, _, _, h => ⟨h.1, normQ_to h.2⟩
  | fuel + 1, _, _, _, h => ⟨fun h0 => normQ_to (h.1 h0), fun i hi => wpOpIn_mono (fun a w => wpAny_in hc fuel _ a w) (wpOp_in hc (h.2 i hi))⟩
theorem tail_end {K : Act → World → Prop} {a : Act} {w : World} (h : K a w) : wpList P ops (NormQ (Exit.then K Q)) [] a w := h
theorem gi_region_still_tail {id : Nat} {a : Act} {w : World} {L : List Oper} (k : Nat) (hm : P.follows .mixedOrders = true) (hB : Region.lexTailB .any L.toArray k = true) (hc : (L.all fun o => noCall o.op) = true)
    (h : wpStill P L.toArray { w with drawn := w.drawn + 1 } (fun a' => wpList P L.toArray (NormQ Q) (L.drop k) a' { w with drawn := w.drawn + 1 }) (L.take k) a) : (Code.region id L.toArray true).wpIn (Fence.wide.inRound l) n P Q a w := by
  simp only [Region.lexTailB, Bool.and_eq_true, decide_eq_true_eq] at hB
  obtain ⟨⟨⟨⟨hsel, hn⟩, hs⟩, hch⟩, hlex⟩ := hB
  have hn' : k < L.length := by simpa using hn
  have htl : (L.take k).length = k := by simp; omega
  have hdl : (L.drop k).length = L.toArray.size - k := by simp
  have inv0 : HeadInv .any L.toArray k (Array.replicate L.toArray.size false) :=
    ⟨by simp, fun j oj _ hl => (by rw [getD_replicate_false] at hl; cases hl), fun t _ ht => getD_in (by simpa using ht) (getD_replicate_false _ _)⟩
  have H := wpAnyL_lex (md := .any) (g := L.toArray.size - k) hsel hs hch hn (L.take k) 0 _ a (fun j hj => by
    have hj' : j < k := by rw [htl] at hj; exact hj
    simp [hj']) (by simpa using htl) inv0 (by rw [htl]; exact hlex) h
  refine wpIn_region_any hm (wpAny_in (fun j o ho => ?_) _ _ _ _ ?_)
  · rw [List.getElem?_toArray] at ho
    exact List.all_eq_true.1 hc o (List.mem_of_getElem? ho)
  · have := wpAny_of_head (Q' := NormQ Q) (g := L.toArray.size - k) (fun listed a' hL => by
      have := wpAny_of_seq (md := .any) (Q' := NormQ Q) (L.drop k) k listed a' { w with drawn := w.drawn + 1 } (fun j => by simp [List.getElem?_drop]) (by rw [hdl]; exact hL.1) hL.2
      rwa [hdl] at this) _ _ _ H
    rw [htl, show k + (L.toArray.size - k) = L.toArray.size by omega] at this
    exact this
end
end Go.Proofs
