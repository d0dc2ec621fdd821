/- Turned as a summary for the machine; the reference's Twice. -/
import Derived.Test.YtokhbkhoidpefaaGreatDoorTurned
import Derived.Test.YtokhbkhoidpefaaGreatDoorRefTurns
import Derived.Test.YtokhbkhoidpefaaGreatDoorTwice
namespace Go.Proofs
open Go.AM Go.RowKit
set_option maxRecDepth 1000000
noncomputable def tdV (x y z : Int) (n : Nat) : Option Value :=
  bif Nat.ble x.natAbs 9000 && (Nat.ble y.natAbs 9000 && (Nat.ble z.natAbs 9000 && Nat.blt n 24)) then some (.agg #[.int .i64 (pickI x y z (turnA n).1), .int .i64 (pickI x y z (turnA n).2.1), .int .i64 (pickI x y z (turnA n).2.2)]) else none
noncomputable def td (args : List Value) : Option Value :=
  match args with
  | [.agg ⟨[.int .i64 x, .int .i64 y, .int .i64 z]⟩, .int .i64 (.ofNat n)] => tdV x y z n
  | _ => none
noncomputable def sumTd : Sum := fun f args h => bif Nat.beq f 82 then (match td args with | some v => some (v, h) | none => none) else none
theorem sumTd_ok : SumOk Tryz.prog sumTd := by
  intro f args h v h' e
  unfold sumTd at e
  cases hb : Nat.beq f 82 with
  | false => rw [hb] at e; cases e
  | true =>
    obtain rfl := Nat.eq_of_beq_eq_true hb
    rw [hb] at e
    simp only [cond_true] at e
    split at e
    · rename_i u hu
      simp only [Option.some.injEq, Prod.mk.injEq] at e
      obtain ⟨rfl, rfl⟩ := e
      unfold td at hu
      split at hu
      · rename_i x y z n
        unfold tdV at hu
        cases hcond : (Nat.ble x.natAbs 9000 && (Nat.ble y.natAbs 9000 && (Nat.ble z.natAbs 9000 && Nat.blt n 24))) with
        | false => rw [hcond] at hu; cases hu
        | true =>
          rw [hcond] at hu
          simp only [cond_true] at hu
          simp only [Bool.and_eq_true] at hcond
          obtain ⟨c1, c2, c3, c4⟩ := hcond
          have c1 := Nat.le_of_ble_eq_true c1
          have c2 := Nat.le_of_ble_eq_true c2
          have c3 := Nat.le_of_ble_eq_true c3
          have c4 : n < 24 := Nat.le_of_ble_eq_true c4
          obtain rfl := Option.some.inj hu
          exact callOk_plain ⟨_, _, Tryz.func82, rfl⟩ rfl rfl fun w => refTurned_ok x y z n c4 w (by omega) (by omega) (by omega)
      · cases hu
    · cases e
noncomputable def twROk (m n r : Nat) : Bool :=
  match callF Tryz.prog sumTd 100000 24 [.int .i64 m, .int .i64 n] h0 with
  | some (v, _) => eqV 4 v (.int .i64 r)
  | none => false
noncomputable def rowROk (m : Nat) (l : List Nat) : Nat → Bool :=
  List.rec (fun _ => true) (fun r _ ih n => Bool.rec false (ih (Nat.succ n)) (twROk m n r)) l
theorem rowROk_spec {m : Nat} : ∀ {l : List Nat} {n i r : Nat}, rowROk m l n = true → l[i]? = some r → twROk m (n + i) r = true
  | [], n, i, r, _, h => by simp at h
  | x :: l, n, i, r, h, hr => by
    have h : (Bool.rec false (rowROk m l (Nat.succ n)) (twROk m n x) : Bool) = true := h
    cases hx : twROk m n x with
    | false => rw [hx] at h; cases h
    | true =>
      rw [hx] at h
      cases i with
      | zero => simp at hr; subst hr; exact hx
      | succ i =>
        have := rowROk_spec (l := l) (n := Nat.succ n) (i := i) h (by simpa using hr)
        rw [show n + (i + 1) = Nat.succ n + i by omega]
        exact this
theorem twROk_calls {m n r : Nat} (h : twROk m n r = true) (w : World) : Calls Tryz.prog 24 #[.int .i64 m, .int .i64 n] w fun e w' => e = .returned (.int .i64 r) ∧ Below w.heap.size w w' := by
  unfold twROk at h
  split at h
  · rename_i v h' he
    rw [callF_eq] at he
    obtain rfl := eqV_eq h
    refine (closed_callS wax_names wax_mixed sumTd_ok (w := w) he rfl).mono ?_
    rintro e w' ⟨v', θ', rfl, hv, _, hb⟩
    exact ⟨by rw [flat_eq rfl hv], hb⟩
  · cases h
end Go.Proofs
