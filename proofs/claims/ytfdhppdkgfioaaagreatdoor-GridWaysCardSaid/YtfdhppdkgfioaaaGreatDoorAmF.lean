import Derived.Test.YtfdhppdkgfioaaaGreatDoorAmE
section
namespace Go.AM
open Go Go.RowKit
section
variable {P : Program}

/-! Calls that are reckoned with some package-level variables known. -/
abbrev GRow := Nat × List Value × TypeId
noncomputable def rowObj (r : GRow) : AObj := .cells ⟨r.2.1.length, [], Tr.nil.setAll 0 r.2.1, r.2.2, false, true, true⟩
noncomputable def rowsT : List GRow → Tr AObj
  | [] => .nil
  | r :: rs => (rowsT rs).set r.1 (rowObj r)
/-- The heap with n variables reserved, of which some are known. -/
noncomputable def hG (n : Nat) (rows : List GRow) : AHeap := ⟨rowsT rows, n, n⟩
def θG (n : Nat) : Env := ⟨fun i => ⟨i, 0, 0, 0⟩, n⟩
theorem rowsT_get : ∀ {rows : List GRow} {i : Nat} {o : AObj}, (rowsT rows).get i = some o → ∃ r ∈ rows, r.1 = i ∧ o = rowObj r
  | [], i, o, e => by simp only [rowsT, Tr.get_nil] at e; cases e
  | r :: rs, i, o, e => by
    simp only [rowsT, Tr.get_set] at e
    split at e
    · rename_i h
      exact ⟨r, List.mem_cons_self .., h.symm, (Option.some.inj e).symm⟩
    · obtain ⟨q, hq, h⟩ := rowsT_get e
      exact ⟨q, List.mem_cons_of_mem _ hq, h⟩
theorem hG_get {n : Nat} {rows : List GRow} {i : Nat} {o : AObj} (e : (hG n rows).get i = some o) : ∃ r ∈ rows, r.1 = i ∧ o = rowObj r := rowsT_get e
/-- What is asked of a world: so many variables, and these rows. -/
def GOk (n : Nat) (rows : List GRow) (w : World) : Prop :=
  n ≤ w.heap.size ∧ ∀ r ∈ rows, r.1 < n ∧ r.2.1.all flat = true ∧ ∀ (k : Nat) (v : Value), r.2.1[k]? = some v → w.cell? ⟨r.1, k, none⟩ = some v
theorem repG {n : Nat} {rows : List GRow} {w : World} (hw : GOk n rows w) : Rep P (θG n) (hG n rows) w := by
  refine ⟨rfl, fun i o e => ?_, fun i j oi oj ei ej hij hwr => ?_, fun i hi => Nat.lt_of_lt_of_le hi hw.1, fun g hg => ⟨hg, rfl⟩⟩
  · obtain ⟨r, hr, rfl, rfl⟩ := hG_get e
    obtain ⟨h1, h2, h3⟩ := hw.2 r hr
    refine ⟨h1, Nat.lt_of_lt_of_le h1 hw.1, fun k v hk => ?_, (fun x => by cases x), (fun _ => rfl), fun x => by cases x⟩
    have hk := hRow_at hk
    exact ⟨v, h3 k v hk, flat_rel (List.all_eq_true.1 h2 v (List.mem_of_getElem? hk))⟩
  · obtain ⟨r, _, _, rfl⟩ := hG_get ei
    cases hwr
/-- Values without addresses, to some depth. -/
noncomputable def plain : Nat → Value → Bool
  | 0, _ => false
  | n + 1, v => flat v || (match v with
    | .agg cs => cs.toList.all (plain n)
    | .tuple cs => cs.toList.all (plain n)
    | _ => false)
theorem plain_eq {θ : Env} : ∀ {n : Nat} {v : Value}, plain n v = true → (∀ v', VRel θ v v' → v' = v) ∧ VRel θ v v
  | 0, _, h => by cases h
  | n + 1, v, h => by
    have arr : ∀ {cs : Array Value}, cs.toList.all (plain n) = true → (∀ ds : Array Value, LRel θ cs.toList ds.toList → ds = cs) ∧ LRel θ cs.toList cs.toList := fun {cs} hc => by
      have el := fun (i : Nat) (u : Value) (hu : cs.toList[i]? = some u) => plain_eq (θ := θ) (List.all_eq_true.1 hc u (List.mem_of_getElem? hu))
      refine ⟨fun ds hl => ?_, ⟨rfl, fun i u u' hu hu' => ?_⟩⟩
      · apply Array.toList_inj.1
        refine List.ext_getElem? fun i => ?_
        cases h1 : cs.toList[i]? with
        | none =>
          rw [List.getElem?_eq_none_iff] at h1 ⊢
          rw [← hl.len]; exact h1
        | some u =>
          obtain ⟨u', h2, h3⟩ := hl.get h1
          rw [h2, (el i u h1).1 u' h3]
      · rw [hu] at hu'
        obtain rfl := Option.some.inj hu'
        exact (el i u hu).2
    simp only [plain, Bool.or_eq_true] at h
    rcases h with h | h
    · exact ⟨fun v' hr => flat_eq h hr, flat_rel h⟩
    · split at h
      · obtain ⟨h1, h2⟩ := arr h
        refine ⟨fun v' hr => ?_, VRel.agg' h2⟩
        obtain ⟨ds, rfl, hl⟩ := hr.agg_inv
        rw [h1 ds hl]
      · obtain ⟨h1, h2⟩ := arr h
        refine ⟨fun v' hr => ?_, VRel.tuple' h2⟩
        obtain ⟨ds, rfl, hl⟩ := hr.tuple_inv
        rw [h1 ds hl]
      · cases h
theorem plains_rel {θ : Env} {l : List Value} (h : l.all (plain 4) = true) : LRel θ l l := ⟨rfl, fun i u u' hu hu' => by
  rw [hu] at hu'
  obtain rfl := Option.some.inj hu'
  exact (plain_eq (List.all_eq_true.1 h u (List.mem_of_getElem? hu))).2⟩
/-- **A closed call**, with what is known of some calls and of some variables. -/
theorem closed_callG (hN : NamesOk P) (hm : P.follows .mixedOrders = true) {S : Sum} (hS : SumOk P S) {n k : Nat} {rows : List GRow} {f : FuncId} {args : List Value} {h' : AHeap} {v : Value} {w : World} (hw : GOk n rows w)
    (e : callF P S k f args (hG n rows) = some (v, h')) (ha : args.all (plain 4) = true) :
    Calls P f args.toArray w fun e w' => ∃ v' θ', e = .returned v' ∧ VRel θ' v v' ∧ Rep P θ' h' w' ∧ Below w.heap.size w w' := by
  rw [callF_eq] at e
  refine ((callS_call hN hm hS e).calls (repG hw) (plains_rel ha)).mono fun _ _ ⟨v', θ', a, b, c, d⟩ => ⟨v', θ', a, b, c, d.below fun i o e => ?_⟩
  obtain ⟨r, _, _, rfl⟩ := hG_get e
  rfl
/-- .. and it returns a plain value. -/
theorem closed_flatG (hN : NamesOk P) (hm : P.follows .mixedOrders = true) {S : Sum} (hS : SumOk P S) {n k : Nat} {rows : List GRow} {f : FuncId} {args : List Value} {v : Value} {w : World} (hw : GOk n rows w)
    (e : (callF P S k f args (hG n rows)).map (·.1) = some v) (ha : args.all (plain 4) = true) (hv : plain 4 v = true) :
    Calls P f args.toArray w fun e w' => e = .returned v ∧ Below w.heap.size w w' := by
  obtain ⟨⟨u, h'⟩, he, hu⟩ := Option.map_eq_some_iff.1 e
  simp only at hu
  subst hu
  refine (closed_callG hN hm hS hw he ha).mono ?_
  rintro e w' ⟨v', θ', rfl, hr, _, hb⟩
  rw [(plain_eq hv).1 _ hr]
  exact ⟨rfl, hb⟩
theorem GOk.below {n : Nat} {rows : List GRow} {w w' : World} (h : GOk n rows w) (hb : Below w.heap.size w w') : GOk n rows w' :=
  ⟨Nat.le_trans h.1 hb.size, fun r hr => by
    obtain ⟨h1, h2, h3⟩ := h.2 r hr
    exact ⟨h1, h2, fun k v hk => (hb.cell (p := ⟨r.1, k, none⟩) (Nat.lt_of_lt_of_le h1 h.1)).trans (h3 k v hk)⟩⟩
end
end Go.AM
end

section
namespace Go.AM
open Go Go.RowKit
section
variable {P : Program}
/-! Calls with plain arguments that were reckoned once, where some variables are known. -/
noncomputable def rowIn (h : AHeap) (r : GRow) : Bool :=
  match h.get r.1 with
  | some (.cells c) => (match c.row 0 r.2.1.length with
    | some l => eqL (eqV 3) l r.2.1
    | none => false)
  | _ => false
noncomputable def hasG (n : Nat) (rows : List GRow) (h : AHeap) : Bool := Nat.ble n h.gl && rows.all fun r => Nat.blt r.1 n && rowIn h r
theorem hasG_ok {n : Nat} {rows : List GRow} {h : AHeap} (e : hasG n rows h = true) (hf : ∀ r ∈ rows, r.2.1.all flat = true) {θ : Env} {w : World} (R : Rep P θ h w) : GOk n rows w := by
  unfold hasG at e
  simp only [Bool.and_eq_true] at e
  have hn : n ≤ h.gl := Nat.le_of_ble_eq_true e.1
  refine ⟨?_, fun r hr => ?_⟩
  · cases n with
    | zero => exact Nat.zero_le _
    | succ n =>
      obtain ⟨h1, h2⟩ := R.glob n hn
      have := R.low n h1
      rw [h2] at this
      exact this
  · have hr' := List.all_eq_true.1 e.2 r hr
    simp only [Bool.and_eq_true] at hr'
    have hlt : r.1 < n := blt_true hr'.1
    refine ⟨hlt, hf r hr, fun k v hk => ?_⟩
    have h3 := hr'.2
    unfold rowIn at h3
    split at h3
    · rename_i c hg
      split at h3
      · rename_i l hl
        obtain rfl := eqL_eq (fun _ _ => eqV_eq) h3
        obtain ⟨_, h5⟩ := R.glob r.1 (Nat.lt_of_lt_of_le hlt hn)
        have hC : CRel P θ (θ.f r.1) c w := (R.obj r.1 _ hg).2.2
        obtain ⟨v', hv', hrel⟩ := hC.at_ _ _ (row_at hl k v hk)
        rw [flat_eq (List.all_eq_true.1 (hf r hr) v (List.mem_of_getElem? hk)) hrel, h5] at hv'
        exact hv'
      · cases h3
    · cases h3
noncomputable def memoG (F : FuncId) (as : List Value) (r : Value) (n : Nat) (rows : List GRow) (S : Sum) : Sum := fun f args h =>
  bif Nat.beq f F then (bif eqL (eqV 100) args as && hasG n rows h then some (r, h) else S f args h) else S f args h
theorem memoG_ok {F : FuncId} {as : List Value} {r : Value} {n : Nat} {rows : List GRow} {S : Sum} (hS : SumOk P S) (hF : ∃ fn c, P.funcs[F]? = some fn ∧ fn.body = some c) (ha : as.all (plain 4) = true) (hr : plain 4 r = true) (hf : ∀ r ∈ rows, r.2.1.all flat = true)
    (hc : ∀ w, GOk n rows w → Calls P F as.toArray w fun e w' => e = .returned r ∧ Below w.heap.size w w') : SumOk P (memoG F as r n rows S) := by
  intro f args h v h' e
  unfold memoG at e
  cases hb : Nat.beq f F with
  | false => rw [hb] at e; exact hS _ _ _ _ _ e
  | true =>
    obtain rfl := Nat.eq_of_beq_eq_true hb
    rw [hb] at e
    simp only [cond_true] at e
    cases hi : (eqL (eqV 100) args as && hasG n rows h) with
    | false => rw [hi] at e; exact hS _ _ _ _ _ e
    | true =>
      rw [hi] at e
      simp only [Bool.and_eq_true] at hi
      simp only [cond_true, Option.some.injEq, Prod.mk.injEq] at e
      obtain ⟨rfl, rfl⟩ := e
      obtain rfl := eqL_eq (fun _ _ => eqV_eq) hi.1
      refine ⟨hF, fun θ w args' m R hl => ?_⟩
      have hargs : args' = args := by
        refine List.ext_getElem? fun i => ?_
        cases h1 : args[i]? with
        | none =>
          rw [List.getElem?_eq_none_iff] at h1 ⊢
          rw [← hl.len]; exact h1
        | some v =>
          obtain ⟨v', h2, h3⟩ := hl.get h1
          rw [h2, (plain_eq (List.all_eq_true.1 ha v (List.mem_of_getElem? h1))).1 _ h3]
      subst hargs
      refine (callsIn_wide (n := m)).2 ((hc w (hasG_ok hi.2 hf R)).mono ?_)
      rintro e w' ⟨rfl, hbel⟩
      obtain ⟨p, g⟩ := R.below hbel
      exact ⟨r, θ, rfl, (plain_eq hr).2, p, g⟩
/-- The same with what was reckoned. -/
theorem memoG_of (hN : NamesOk P) (hm : P.follows .mixedOrders = true) {F : FuncId} {as : List Value} {r : Value} {n k : Nat} {rows : List GRow} {S S' : Sum} (hS : SumOk P S) (hS' : SumOk P S') (ha : as.all (plain 4) = true) (hr : plain 4 r = true) (hf : ∀ r ∈ rows, r.2.1.all flat = true)
    (e : (callF P S' k F as (hG n rows)).map (·.1) = some r) : SumOk P (memoG F as r n rows S) := by
  have e2 := e
  obtain ⟨⟨u, h'⟩, he, hu⟩ := Option.map_eq_some_iff.1 e2
  rw [callF_eq] at he
  exact memoG_ok hS (callS_call hN hm hS' he).1 ha hr hf fun w hw => closed_flatG hN hm hS' hw e ha hr
end
end Go.AM
end
