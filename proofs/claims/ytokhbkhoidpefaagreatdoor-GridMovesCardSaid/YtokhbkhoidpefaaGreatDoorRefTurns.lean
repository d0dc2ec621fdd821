import Derived.Test.YtokhbkhoidpefaaGreatDoorShiftR
import Derived.Deep.RegionHeld3
import Derived.Test.YtokhbkhoidpefaaGreatDoorAmF
import Derived.Test.YtokhbkhoidpefaaGreatDoorGoodT
section
/- The reference's image and through. -/
namespace Go.Proofs
open Go.RowKit
set_option maxHeartbeats 8000000
set_option maxRecDepth 1000000
theorem image_ok (x y z : Int) (k : Nat) (hk : k < 6) (w : World) (k1 : -9000000 ≤ x ∧ x ≤ 9000000) (k2 : -9000000 ≤ y ∧ y ≤ 9000000) (k3 : -9000000 ≤ z ∧ z ≤ 9000000) :
    Calls Tryz.prog 129 #[.agg #[.int .i64 x, .int .i64 y, .int .i64 z], .int .i64 k] w fun e w' => e = .returned (.int .i64 (pickI x y z k)) ∧ Below w.heap.size w w' := by
  have w1 : wrap64 (-x) = -x := by unfold wrap64; omega
  have w2 : wrap64 (-y) = -y := by unfold wrap64; omega
  have w3 : wrap64 (-z) = -z := by unfold wrap64; omega
  clear k1 k2 k3
  obtain rfl | rfl | rfl | rfl | rfl | rfl : k = 0 ∨ k = 1 ∨ k = 2 ∨ k = 3 ∨ k = 4 ∨ k = 5 := by omega
  all_goals simp only [pickI]
  all_goals go_enter Tryz.func129, Tryz.ntmps129
  all_goals go_wp2
  all_goals (try go_ret)
  all_goals refine ⟨?_, (Below.refl _ _).alloc (Nat.le_refl _) _⟩
  all_goals first | rfl | exact congrArg (fun n => Ending.returned (.int .i64 n)) w1 | exact congrArg (fun n => Ending.returned (.int .i64 n)) w2 | exact congrArg (fun n => Ending.returned (.int .i64 n)) w3
theorem through_ok (a b c : Nat) (ha : a < 6) (hb : b < 6) (hc : c < 6) (x y z : Int) (w : World) (k1 : -9000000 ≤ x ∧ x ≤ 9000000) (k2 : -9000000 ≤ y ∧ y ≤ 9000000) (k3 : -9000000 ≤ z ∧ z ≤ 9000000) :
    Calls Tryz.prog 79 #[.agg #[.int .i64 x, .int .i64 y, .int .i64 z], .agg #[.int .i64 a, .int .i64 b, .int .i64 c]] w fun e w' => e = .returned (.agg #[.int .i64 (pickI x y z a), .int .i64 (pickI x y z b), .int .i64 (pickI x y z c)]) ∧ Below w.heap.size w w' := by
  have ia := fun W => image_ok x y z a ha W k1 k2 k3
  have ib := fun W => image_ok x y z b hb W k1 k2 k3
  have ic := fun W => image_ok x y z c hc W k1 k2 k3
  clear k1 k2 k3 ha hb hc
  obtain ⟨W, hW⟩ : ∃ W, W = (((w.alloc (.cells #[.int .i64 x, .int .i64 y, .int .i64 z] 24)).alloc (.cells #[.int .i64 a, .int .i64 b, .int .i64 c] 102)).alloc (.cells #[.int .i64 0, .int .i64 0, .int .i64 0] 24)) := ⟨_, rfl⟩
  have d0 : W.cell? ⟨w.heap.size, 0, none⟩ = some (.int .i64 x) := by subst hW; go_simp
  have d1 : W.cell? ⟨w.heap.size, 1, none⟩ = some (.int .i64 y) := by subst hW; go_simp
  have d2 : W.cell? ⟨w.heap.size, 2, none⟩ = some (.int .i64 z) := by subst hW; go_simp
  have x0 : W.cell? ⟨w.heap.size + 1, 0, none⟩ = some (.int .i64 a) := by subst hW; go_simp
  have x1 : W.cell? ⟨w.heap.size + 1, 1, none⟩ = some (.int .i64 b) := by subst hW; go_simp
  have x2 : W.cell? ⟨w.heap.size + 1, 2, none⟩ = some (.int .i64 c) := by subst hW; go_simp
  have hK0 : Below w.heap.size w W := by subst hW; exact (((Below.refl _ _).alloc (Nat.le_refl _) _).alloc (by simp) _).alloc (by simp; omega) _
  have hlt : w.heap.size + 2 < W.heap.size := by subst hW; simp
  have hz0 : W.heap[w.heap.size + 2]? = some (.cells #[.int .i64 0, .int .i64 0, .int .i64 0] 24 (0, 0)) := by
    subst hW
    have := heap_alloc_new ((w.alloc (.cells #[.int .i64 x, .int .i64 y, .int .i64 z] 24)).alloc (.cells #[.int .i64 a, .int .i64 b, .int .i64 c] 102)) (.cells #[.int .i64 0, .int .i64 0, .int .i64 0] 24)
    rw [show ((w.alloc (.cells #[.int .i64 x, .int .i64 y, .int .i64 z] 24)).alloc (.cells #[.int .i64 a, .int .i64 b, .int .i64 c] 102)).heap.size = w.heap.size + 2 by simp] at this
    exact this
  have kS : ∀ w', Below W.heap.size W w' → w'.cell? ⟨w.heap.size, 0, none⟩ = some (.int .i64 x) ∧ w'.cell? ⟨w.heap.size, 1, none⟩ = some (.int .i64 y) ∧ w'.cell? ⟨w.heap.size, 2, none⟩ = some (.int .i64 z) ∧ w'.cell? ⟨w.heap.size + 1, 0, none⟩ = some (.int .i64 (a : Nat)) ∧ w'.cell? ⟨w.heap.size + 1, 1, none⟩ = some (.int .i64 (b : Nat)) ∧ w'.cell? ⟨w.heap.size + 1, 2, none⟩ = some (.int .i64 (c : Nat)) := fun w' h => ⟨(h.cell (p := ⟨w.heap.size, 0, none⟩) (by dsimp only; omega)).trans d0, (h.cell (p := ⟨w.heap.size, 1, none⟩) (by dsimp only; omega)).trans d1, (h.cell (p := ⟨w.heap.size, 2, none⟩) (by dsimp only; omega)).trans d2, (h.cell (p := ⟨w.heap.size + 1, 0, none⟩) (by dsimp only; omega)).trans x0, (h.cell (p := ⟨w.heap.size + 1, 1, none⟩) (by dsimp only; omega)).trans x1, (h.cell (p := ⟨w.heap.size + 1, 2, none⟩) (by dsimp only; omega)).trans x2⟩
  have hX : Below W.heap.size W W.drew := (Below.refl _ _).drew
  have hkk := kS _ hX
  have hn1 : ¬ (w.heap.size = w.heap.size + 1 + 1) := by omega
  have hn2 : ¬ (w.heap.size + 1 + 1 = w.heap.size) := by omega
  clear d0 d1 d2 x0 x1 x2
  go_enter Tryz.func79, Tryz.ntmps79
  go_wp2_with fail
  rw [← hW]
  clear hW
  go_region_held3 (fun w' => w'.cell? ⟨w.heap.size, 0, none⟩ = some (.int .i64 x) ∧ w'.cell? ⟨w.heap.size, 1, none⟩ = some (.int .i64 y) ∧ w'.cell? ⟨w.heap.size, 2, none⟩ = some (.int .i64 z) ∧ w'.cell? ⟨w.heap.size + 1, 0, none⟩ = some (.int .i64 (a : Nat)) ∧ w'.cell? ⟨w.heap.size + 1, 1, none⟩ = some (.int .i64 (b : Nat)) ∧ w'.cell? ⟨w.heap.size + 1, 2, none⟩ = some (.int .i64 (c : Nat))) (first | exact hkk | go_keep) (first
    | (go_at_call 129; first | with_reducible refine (ia _).mono ?_ | with_reducible refine (ib _).mono ?_ | with_reducible refine (ic _).mono ?_
       rintro e w5 ⟨rfl, hB5⟩; have hX := hX.trans (hB5.mono hX.size); have hkk := kS _ hX; have hz5 := (hX.block _ hlt).trans hz0; have z0 := cell_of_row w5 (w.heap.size + 2) 0 _ _ _ hz5; have z1 := cell_of_row w5 (w.heap.size + 2) 1 _ _ _ hz5; have z2 := cell_of_row w5 (w.heap.size + 2) 2 _ _ _ hz5; simp at z0 z1 z2; have fz := fun j => frozen_of_row w5 (w.heap.size + 2) j _ _ hz5))
  rename_i hHeld
  clear hHeld
  have hz' := heap_setCell_same _ (w.heap.size + 2) 2 _ _ (.int .i64 (pickI x y z c)) (heap_setCell_same _ (w.heap.size + 2) 1 _ _ (.int .i64 (pickI x y z b)) (heap_setCell_same _ (w.heap.size + 2) 0 _ _ (.int .i64 (pickI x y z a)) hz5))
  simp at hz'
  have hB' := (((hK0.trans (hX.mono hK0.size)).setCell (p := ⟨w.heap.size + 2, 0, none⟩) (by simp) (.int .i64 (pickI x y z a))).setCell (p := ⟨w.heap.size + 2, 1, none⟩) (by simp) (.int .i64 (pickI x y z b))).setCell (p := ⟨w.heap.size + 2, 2, none⟩) (by simp) (.int .i64 (pickI x y z c))
  have Hz' := Lib.hid hz'
  clear hz' hz5 z0 z1 z2 fz hkk kS hz0 hn1 hn2
  go_wp2
  refine bodyPost_ret (results_cell_row rfl _ _ _ 24 #[.int .i64 (pickI x y z a), .int .i64 (pickI x y z b), .int .i64 (pickI x y z c)] (0, 0) _ rfl ?_ Tryz.underlying24 rfl (by kernel_rfl)) rfl ?_
  · exact Hz'.out
  · exact ⟨rfl, hB'⟩
end Go.Proofs
end

section
/- through as a summary for the machine. -/
namespace Go.Proofs
open Go.AM Go.RowKit
set_option maxRecDepth 1000000
theorem callOk_plain {P : Program} {F : FuncId} {xs : List Value} {r : Value} {h : AHeap} (hF : ∃ fn c, P.funcs[F]? = some fn ∧ fn.body = some c) (ha : xs.all (plain 4) = true) (hr : plain 4 r = true)
    (hc : ∀ w, Calls P F xs.toArray w fun e w' => e = .returned r ∧ Below w.heap.size w w') : CallOk P F xs h r h := by
  refine ⟨hF, fun θ w args' m R hl => ?_⟩
  have hargs : args' = xs := by
    refine List.ext_getElem? fun i => ?_
    cases h1 : xs[i]? with
    | none =>
      rw [List.getElem?_eq_none_iff] at h1 ⊢
      rw [← hl.len]; exact h1
    | some v =>
      obtain ⟨v', h2, h3⟩ := hl.get h1
      rw [h2, (plain_eq (List.all_eq_true.1 ha v (List.mem_of_getElem? h1))).1 _ h3]
  subst hargs
  refine (callsIn_wide (n := m)).2 ((hc w).mono ?_)
  rintro e w' ⟨rfl, hbel⟩
  obtain ⟨p, g⟩ := R.below hbel
  exact ⟨r, θ, rfl, (plain_eq hr).2, p, g⟩
noncomputable def thrV (x y z : Int) (a b c : Nat) : Option Value :=
  bif Nat.ble x.natAbs 9000 && (Nat.ble y.natAbs 9000 && (Nat.ble z.natAbs 9000 && (Nat.blt a 6 && (Nat.blt b 6 && Nat.blt c 6)))) then some (.agg #[.int .i64 (pickI x y z a), .int .i64 (pickI x y z b), .int .i64 (pickI x y z c)]) else none
noncomputable def thr (args : List Value) : Option Value :=
  match args with
  | [.agg ⟨[.int .i64 x, .int .i64 y, .int .i64 z]⟩, .agg ⟨[.int .i64 (.ofNat a), .int .i64 (.ofNat b), .int .i64 (.ofNat c)]⟩] => thrV x y z a b c
  | _ => none
noncomputable def sumThr : Sum := fun f args h => bif Nat.beq f 79 then (match thr args with | some v => some (v, h) | none => none) else none
theorem sumThr_ok : SumOk Tryz.prog sumThr := by
  intro f args h v h' e
  unfold sumThr at e
  cases hb : Nat.beq f 79 with
  | false => rw [hb] at e; cases e
  | true =>
    obtain rfl := Nat.eq_of_beq_eq_true hb
    rw [hb] at e
    simp only [cond_true] at e
    split at e
    · rename_i u hu
      simp only [Option.some.injEq, Prod.mk.injEq] at e
      obtain ⟨rfl, rfl⟩ := e
      unfold thr at hu
      split at hu
      · rename_i x y z a b c
        unfold thrV at hu
        cases hcond : (Nat.ble x.natAbs 9000 && (Nat.ble y.natAbs 9000 && (Nat.ble z.natAbs 9000 && (Nat.blt a 6 && (Nat.blt b 6 && Nat.blt c 6))))) with
        | false => rw [hcond] at hu; cases hu
        | true =>
          rw [hcond] at hu
          simp only [cond_true] at hu
          simp only [Bool.and_eq_true] at hcond
          obtain ⟨c1, c2, c3, c4, c5, c6⟩ := hcond
          have c1 := Nat.le_of_ble_eq_true c1
          have c2 := Nat.le_of_ble_eq_true c2
          have c3 := Nat.le_of_ble_eq_true c3
          have c4 : a < 6 := Nat.le_of_ble_eq_true c4
          have c5 : b < 6 := Nat.le_of_ble_eq_true c5
          have c6 : c < 6 := Nat.le_of_ble_eq_true c6
          obtain rfl := Option.some.inj hu
          exact callOk_plain ⟨_, _, Tryz.func79, rfl⟩ rfl rfl fun w => through_ok a b c c4 c5 c6 x y z w (by omega) (by omega) (by omega)
      · cases hu
    · cases e
end Go.Proofs
end

section
/- The reference's Turns: the row that it makes. -/
namespace Go.Proofs
open Go.AM Go.RowKit
set_option maxRecDepth 1000000
noncomputable def seeT (r : Value × AHeap) : Option (List (Option Value)) :=
  match r.1 with
  | .slice (some ⟨b, o, none⟩) 24 _ => match r.2.get b with
    | some (.cells c) => some ((List.range 72).map fun k => c.at (o + k))
    | _ => none
  | _ => none
noncomputable def rowT : List (Option Value) := turnT.flatMap fun t => [some (.int .i64 t.1), some (.int .i64 t.2.1), some (.int .i64 t.2.2)]
theorem refTurns_runs : (callF Tryz.prog sumThr 200000 78 [] h0).bind seeT = some rowT := by kernel_rfl
theorem refTurns_ok (w : World) : Calls Tryz.prog 78 #[] w fun e w' => ∃ g o cap, e = .returned (.slice (some ⟨g, o, none⟩) 24 cap) ∧ g < w'.heap.size ∧ (∀ (k : Nat) (v : Value), rowT[k]? = some (some v) → (∀ θ v', VRel θ v v' → v' = v) → w'.cell? ⟨g, o + k, none⟩ = some v) ∧ Below w.heap.size w w' := by
  have e := refTurns_runs
  rw [callF_eq] at e
  obtain ⟨⟨v, h'⟩, he, hv⟩ := Option.bind_eq_some_iff.1 e
  refine (closed_callS wax_names wax_mixed sumThr_ok (w := w) he rfl).mono ?_
  rintro e w' ⟨v', θ', rfl, hr, hrep, hb⟩
  unfold seeT at hv
  split at hv
  · rename_i b o cap hk
    dsimp only at hk hv
    subst hk
    split at hv
    · rename_i c hg
      obtain ⟨hn, hblk, hor⟩ := hrep.obj _ _ hg
      have hc : CRel Tryz.prog θ' (θ'.f b) c w' := hor
      have hrow := Option.some.inj hv
      have hcells : ∀ (k : Nat) (v : Value), rowT[k]? = some (some v) → (∀ θ v', VRel θ v v' → v' = v) → w'.cell? ⟨(θ'.f b).blk, o + (θ'.f b).sh + k, none⟩ = some v := fun k v hk hf => by
        rw [← hrow, List.getElem?_map] at hk
        obtain ⟨j, hj, hj2⟩ := Option.map_eq_some_iff.1 hk
        obtain ⟨hlt, rfl⟩ := List.getElem?_eq_some_iff.1 hj
        simp only [List.getElem_range] at hj2
        obtain ⟨u, hu, hur⟩ := hc.at_ _ _ hj2
        rw [hf _ _ hur] at hu
        rw [show o + (θ'.f b).sh + k = o + k + (θ'.f b).sh by omega]
        exact hu
      cases hr
      all_goals exact ⟨_, _, _, rfl, hblk, hcells, hb⟩
    · cases hv
  · cases hv
end Go.Proofs
end
