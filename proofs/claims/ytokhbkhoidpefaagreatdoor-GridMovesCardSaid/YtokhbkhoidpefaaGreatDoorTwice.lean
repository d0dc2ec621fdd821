import Derived.Test.YtokhbkhoidpefaaGreatDoorGoodT
namespace Go.Proofs
open Go.AM Go.RowKit
set_option maxRecDepth 1000000
/-- A call without arguments that is known. -/
noncomputable def memo0 (F : FuncId) (r : Value) (S : Sum) : Sum := fun f args h =>
  bif Nat.beq f F then (match args with
    | [] => some (r, h)
    | _ => S f args h) else S f args h
theorem memo0_ok {P : Program} {F : FuncId} {r : Value} {S : Sum} (hS : SumOk P S) (hF : ∃ fn c, P.funcs[F]? = some fn ∧ fn.body = some c) (hr : flat r = true)
    (hc : ∀ w, Calls P F #[] w fun e w' => e = .returned r ∧ Below w.heap.size w w') : SumOk P (memo0 F r S) := by
  intro f args h v h' e
  unfold memo0 at e
  cases hf : Nat.beq f F with
  | false => rw [hf] at e; exact hS _ _ _ _ _ e
  | true =>
    obtain rfl := Nat.eq_of_beq_eq_true hf
    rw [hf] at e
    simp only [cond_true] at e
    split at e
    · simp only [Option.some.injEq, Prod.mk.injEq] at e
      obtain ⟨rfl, rfl⟩ := e
      refine ⟨hF, fun θ w args' m R ha => ?_⟩
      obtain rfl := ha.nil_inv
      refine (callsIn_wide (n := m)).2 ((hc w).mono ?_)
      rintro e w' ⟨rfl, hb⟩
      obtain ⟨p, g⟩ := R.below hb
      exact ⟨r, θ, rfl, flat_rel hr, p, g⟩
    · exact hS _ _ _ _ _ e
noncomputable def sumTurns : Sum := memo0 70 turnsV noSum
theorem sumTurns_ok : SumOk Tryz.prog sumTurns := memo0_ok noSum_ok ⟨_, _, Tryz.func70, rfl⟩ rfl turns_ok
def twT : List (List Nat) := [[0, 1, 2, 3, 4, 5, 6, 7, 8, 9, 10, 11, 12, 13, 14, 15, 16, 17, 18, 19, 20, 21, 22, 23], [1, 0, 3, 2, 5, 4, 7, 6, 12, 13, 15, 14, 8, 9, 11, 10, 20, 21, 23, 22, 16, 17, 19, 18], [2, 3, 1, 0, 6, 7, 5, 4, 16, 17, 19, 18, 20, 21, 23, 22, 12, 13, 14, 15, 8, 9, 10, 11], [3, 2, 0, 1, 7, 6, 4, 5, 20, 21, 22, 23, 16, 17, 18, 19, 8, 9, 11, 10, 12, 13, 15, 14], [4, 5, 7, 6, 0, 1, 3, 2, 9, 8, 11, 10, 13, 12, 15, 14, 21, 20, 22, 23, 17, 16, 18, 19], [5, 4, 6, 7, 1, 0, 2, 3, 13, 12, 14, 15, 9, 8, 10, 11, 17, 16, 19, 18, 21, 20, 23, 22], [6, 7, 4, 5, 2, 3, 0, 1, 17, 16, 18, 19, 21, 20, 22, 23, 9, 8, 10, 11, 13, 12, 14, 15], [7, 6, 5, 4, 3, 2, 1, 0, 21, 20, 23, 22, 17, 16, 19, 18, 13, 12, 15, 14, 9, 8, 11, 10], [8, 9, 11, 10, 12, 13, 15, 14, 0, 1, 3, 2, 4, 5, 7, 6, 22, 23, 20, 21, 18, 19, 16, 17], [9, 8, 10, 11, 13, 12, 14, 15, 4, 5, 6, 7, 0, 1, 2, 3, 18, 19, 17, 16, 22, 23, 21, 20], [10, 11, 8, 9, 14, 15, 12, 13, 18, 19, 16, 17, 22, 23, 20, 21, 0, 1, 2, 3, 4, 5, 6, 7], [11, 10, 9, 8, 15, 14, 13, 12, 22, 23, 21, 20, 18, 19, 17, 16, 4, 5, 7, 6, 0, 1, 3, 2], [12, 13, 14, 15, 8, 9, 10, 11, 1, 0, 2, 3, 5, 4, 6, 7, 19, 18, 16, 17, 23, 22, 20, 21], [13, 12, 15, 14, 9, 8, 11, 10, 5, 4, 7, 6, 1, 0, 3, 2, 23, 22, 21, 20, 19, 18, 17, 16], [14, 15, 13, 12, 10, 11, 9, 8, 19, 18, 17, 16, 23, 22, 21, 20, 5, 4, 6, 7, 1, 0, 2, 3], [15, 14, 12, 13, 11, 10, 8, 9, 23, 22, 20, 21, 19, 18, 16, 17, 1, 0, 3, 2, 5, 4, 7, 6], [16, 17, 18, 19, 20, 21, 22, 23, 2, 3, 0, 1, 6, 7, 4, 5, 10, 11, 8, 9, 14, 15, 12, 13], [17, 16, 19, 18, 21, 20, 23, 22, 6, 7, 5, 4, 2, 3, 1, 0, 14, 15, 13, 12, 10, 11, 9, 8], [18, 19, 17, 16, 22, 23, 21, 20, 10, 11, 9, 8, 14, 15, 13, 12, 6, 7, 4, 5, 2, 3, 0, 1], [19, 18, 16, 17, 23, 22, 20, 21, 14, 15, 12, 13, 10, 11, 8, 9, 2, 3, 1, 0, 6, 7, 5, 4], [20, 21, 23, 22, 16, 17, 19, 18, 3, 2, 1, 0, 7, 6, 5, 4, 15, 14, 12, 13, 11, 10, 8, 9], [21, 20, 22, 23, 17, 16, 18, 19, 7, 6, 4, 5, 3, 2, 0, 1, 11, 10, 9, 8, 15, 14, 13, 12], [22, 23, 20, 21, 18, 19, 16, 17, 11, 10, 8, 9, 15, 14, 12, 13, 3, 2, 0, 1, 7, 6, 4, 5], [23, 22, 21, 20, 19, 18, 17, 16, 15, 14, 13, 12, 11, 10, 9, 8, 7, 6, 5, 4, 3, 2, 1, 0]]
noncomputable def twOk (m n r : Nat) : Bool :=
  match callF Tryz.prog sumTurns 100000 12 [.int .i64 m, .int .i64 n] h0 with
  | some (v, _) => eqV 4 v (.tuple #[.int .i64 r, .int .i64 0])
  | none => false
noncomputable def rowOk (m : Nat) (l : List Nat) : Nat → Bool :=
  List.rec (fun _ => true) (fun r _ ih n => Bool.rec false (ih (Nat.succ n)) (twOk m n r)) l
theorem rowOk_spec {m : Nat} : ∀ {l : List Nat} {n i r : Nat}, rowOk m l n = true → l[i]? = some r → twOk m (n + i) r = true
  | [], n, i, r, _, h => by simp at h
  | x :: l, n, i, r, h, hr => by
    have h : (Bool.rec false (rowOk m l (Nat.succ n)) (twOk m n x) : Bool) = true := h
    cases hx : twOk m n x with
    | false => rw [hx] at h; cases h
    | true =>
      rw [hx] at h
      cases i with
      | zero => simp at hr; subst hr; exact hx
      | succ i =>
        have := rowOk_spec (l := l) (n := Nat.succ n) (i := i) h (by simpa using hr)
        rw [show n + (i + 1) = Nat.succ n + i by omega]
        exact this
theorem twOk_calls {m n r : Nat} (h : twOk m n r = true) (w : World) : Calls Tryz.prog 12 #[.int .i64 m, .int .i64 n] w fun e w' => e = .returned (.tuple #[.int .i64 r, .int .i64 0]) ∧ Below w.heap.size w w' := by
  unfold twOk at h
  split at h
  · rename_i v h' he
    rw [callF_eq] at he
    obtain rfl := eqV_eq h
    refine (closed_callS wax_names wax_mixed sumTurns_ok (w := w) he rfl).mono ?_
    rintro e w' ⟨v', θ', rfl, hv, _, hb⟩
    exact ⟨by rw [flat_eq rfl hv], hb⟩
  · cases h
end Go.Proofs
