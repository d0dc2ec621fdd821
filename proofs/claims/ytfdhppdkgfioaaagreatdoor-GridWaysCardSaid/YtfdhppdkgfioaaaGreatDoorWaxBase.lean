import Derived.Test.YtfdhppdkgfioaaaGreatDoorCells
import Derived.Test.YtfdhppdkgfioaaaGreatDoorAmD
import Derived.Test.YtfdhppdkgfioaaaGreatDoorAmE
section
namespace Go.Proofs
open Go.AM
/-! The abstract machine's summary of (set).cells. -/
noncomputable def ltB (x y : Cel) : Bool := ltI x.1 y.1 || (eqI x.1 y.1 && (ltI x.2.1 y.2.1 || (eqI x.2.1 y.2.1 && ltI x.2.2 y.2.2)))
theorem ltB_eq (x y : Cel) : ltB x y = ltC x y := by
  unfold ltB ltC
  simp only [ltI_eq, eqI_eq]
  by_cases h1 : x.1 < y.1 <;> by_cases h2 : x.1 = y.1 <;> by_cases h3 : x.2.1 < y.2.1 <;> by_cases h4 : x.2.1 = y.2.1 <;> by_cases h5 : x.2.2 < y.2.2 <;> simp [h1, h2, h3, h4, h5]
noncomputable def insC (c : Cel) : List Cel → List Cel
  | [] => [c]
  | x :: l => Bool.rec (x :: insC c l) (c :: x :: l) (ltB c x)
noncomputable def isortC : List Cel → List Cel
  | [] => []
  | x :: l => insC x (isortC l)
noncomputable def ascC : List Cel → Bool
  | x :: y :: l => ltB x y && ascC (y :: l)
  | _ => true
theorem insC_perm (c : Cel) : ∀ l : List Cel, (insC c l).Perm (c :: l)
  | [] => .refl _
  | x :: l => by
    simp only [insC]
    cases ltB c x with
    | true => exact .refl _
    | false => exact ((insC_perm c l).cons x).trans (.swap c x l)
theorem isortC_perm : ∀ l : List Cel, (isortC l).Perm l
  | [] => .refl _
  | x :: l => (insC_perm x (isortC l)).trans ((isortC_perm l).cons x)
theorem asc_pairwise : ∀ {l : List Cel}, ascC l = true → l.Pairwise fun x y => ltC x y = true
  | [], _ => .nil
  | [x], _ => by simp
  | x :: y :: l, h => by
    simp only [ascC, Bool.and_eq_true] at h
    have ih := asc_pairwise h.2
    refine List.pairwise_cons.2 ⟨fun z hz => ?_, ih⟩
    have h1 : ltC x y = true := by rw [← ltB_eq]; exact h.1
    rcases List.mem_cons.1 hz with rfl | hz
    · exact h1
    · exact swoC.trans x y z h1 ((List.pairwise_cons.1 ih).1 z hz)
theorem asc_nodup {l : List Cel} (h : ascC l = true) : l.Nodup := (asc_pairwise h).imp fun {a b} hl e => by
  subst e
  rw [swoC.irrefl] at hl
  cases hl
theorem asc_sorted {l : List Cel} (h : ascC l = true) : sortC l = l := by
  have tr : ∀ a b c : Cel, (!ltC b a) = true → (!ltC c b) = true → (!ltC c a) = true := fun a b c h1 h2 => by
    simp only [Bool.not_eq_true'] at *
    exact swoC.ntrans c b a h2 h1
  refine List.mergeSort_of_pairwise ((asc_pairwise h).imp fun {a b} hl => ?_)
  simp only [Bool.not_eq_true']
  cases hb : ltC b a with
  | false => rfl
  | true =>
    have := swoC.trans a b a hl hb
    rw [swoC.irrefl] at this
    cases this
theorem isortC_eq {l : List Cel} (h : ascC (isortC l) = true) : sortC l = isortC l := (sortC_perm (isortC_perm l).symm).trans (asc_sorted h)

noncomputable def celOf : Value → Option Cel
  | .agg cs => match cs.toList with
    | [.int .i64 a, .int .i64 b, .int .i64 c] => some (a, b, c)
    | _ => none
  | _ => none
theorem celOf_spec {v : Value} {c : Cel} (h : celOf v = some c) : v = cellV c := by
  unfold celOf at h
  split at h
  · split at h
    · rename_i cs a b d hcs
      obtain rfl := Option.some.inj h
      unfold cellV
      congr 1
      apply Array.toList_inj.1
      rw [hcs]
    · cases h
  · cases h
noncomputable def celsOf : List MapEntry → Option (List Cel)
  | [] => some []
  | e :: es => match celOf e.key with
    | none => none
    | some c => match celsOf es with
      | none => none
      | some l => some (c :: l)
noncomputable def bornOk (clock : Nat) : List MapEntry → Bool
  | [] => true
  | e :: es => Nat.blt e.born clock && es.all (fun x => !Nat.beq x.born e.born) && bornOk clock es
noncomputable def sumCells (F : FuncId) : Sum := fun f args h => Bool.rec none (match args with
  | [.map (some m)] => match h.get m with
    | some (.map es clock) => match celsOf es with
      | some l => Bool.rec none (some (.slice (some ⟨h.next, 0, none⟩) l.length l.length, newCells h (l.length * 3) [] (Tr.nil.setAll 0 (flatC (isortC l))) 24 false)) (bornOk clock es && ascC (isortC l) && Nat.ble l.length 4096)
      | none => none
    | _ => none
  | _ => none) (Nat.beq f F)
theorem celsOf_spec : ∀ {es : List MapEntry} {l : List Cel}, celsOf es = some l → l.length = es.length ∧ ∀ (i : Nat) (e : MapEntry), es[i]? = some e → ∃ c, l[i]? = some c ∧ celOf e.key = some c
  | [], l, h => by
    obtain rfl : [] = l := by simpa [celsOf] using h
    exact ⟨rfl, fun i e he => by simp at he⟩
  | x :: es, l, h => by
    simp only [celsOf] at h
    cases hx : celOf x.key with
    | none => rw [hx] at h; cases h
    | some c =>
      rw [hx] at h
      simp only at h
      cases hs : celsOf es with
      | none => rw [hs] at h; cases h
      | some l' =>
        rw [hs] at h
        obtain rfl : c :: l' = l := by simpa using h
        obtain ⟨hl, hi⟩ := celsOf_spec hs
        refine ⟨by simp [hl], fun i e he => ?_⟩
        cases i with
        | zero =>
          obtain rfl : x = e := by simpa using he
          exact ⟨c, by simp, hx⟩
        | succ i => simpa using hi i e (by simpa using he)
theorem bornOk_spec {clock : Nat} : ∀ {es : List MapEntry}, bornOk clock es = true → (∀ e ∈ es, e.born < clock) ∧ (es.map (·.born)).Nodup
  | [], _ => ⟨(fun e h => by cases h), List.nodup_nil⟩
  | x :: es, h => by
    simp only [bornOk, Bool.and_eq_true] at h
    obtain ⟨h1, h2⟩ := bornOk_spec h.2
    refine ⟨fun e he => ?_, ?_⟩
    · rcases List.mem_cons.1 he with rfl | he
      · exact blt_true h.1.1
      · exact h1 e he
    · rw [List.map_cons, List.nodup_cons]
      refine ⟨fun hm => ?_, h2⟩
      obtain ⟨y, hy, e⟩ := List.mem_map.1 hm
      have := List.all_eq_true.1 h.1.2 y hy
      simp only [e] at this
      simp at this
def kcOf (e : MapEntry) : Cel := (match e.key with
  | .agg cs => match cs.toList with
    | [.int .i64 a, .int .i64 b, .int .i64 c] => some (a, b, c)
    | _ => none
  | _ => none : Option Cel).getD (0, 0, 0)
theorem kcOf_eq {e : MapEntry} {c : Cel} (h : celOf e.key = some c) : kcOf e = c := by
  have : kcOf e = (celOf e.key).getD (0, 0, 0) := rfl
  rw [this, h]
  rfl
theorem mrel_maps {θ : Env} {es es' : List MapEntry} (r : MRel θ es es') : es'.map (·.born) = es.map (·.born) ∧ ∀ l, celsOf es = some l → es'.map kcOf = l ∧ ∀ e ∈ es', e.key = cellV (kcOf e) := by
  have hget : ∀ (i : Nat) (e' : MapEntry), es'[i]? = some e' → ∃ e, es[i]? = some e ∧ e'.key = e.key ∧ e'.born = e.born := fun i e' he' => by
    have hi : i < es.length := by rw [r.len]; exact (List.getElem?_eq_some_iff.1 he').1
    have := r.at_ i _ e' (List.getElem?_eq_getElem hi) he'
    exact ⟨_, List.getElem?_eq_getElem hi, this.1, this.2.1⟩
  refine ⟨List.ext_getElem? fun i => ?_, fun l hl => ⟨List.ext_getElem? fun i => ?_, fun e' hm => ?_⟩⟩
  · simp only [List.getElem?_map]
    cases h : es'[i]? with
    | none =>
      have : es[i]? = none := List.getElem?_eq_none (by rw [r.len]; exact List.getElem?_eq_none_iff.1 h)
      rw [this]
    | some e' =>
      obtain ⟨e, h1, _, h3⟩ := hget i e' h
      rw [h1]
      simp [h3]
  · obtain ⟨hlen, hi⟩ := celsOf_spec hl
    simp only [List.getElem?_map]
    cases h : es'[i]? with
    | none =>
      have : l[i]? = none := List.getElem?_eq_none (by rw [hlen, r.len]; exact List.getElem?_eq_none_iff.1 h)
      rw [this]
      rfl
    | some e' =>
      obtain ⟨e, h1, h2, _⟩ := hget i e' h
      obtain ⟨c, h3, h4⟩ := hi i e h1
      rw [h3]
      simp only [Option.map_some, Option.some.injEq]
      exact kcOf_eq (by rw [h2]; exact h4)
  · obtain ⟨i, hi'⟩ := List.mem_iff_getElem?.1 hm
    obtain ⟨e, h1, h2, _⟩ := hget i e' hi'
    obtain ⟨hlen, hi⟩ := celsOf_spec hl
    obtain ⟨c, h3, h4⟩ := hi i e h1
    have h5 : celOf e'.key = some c := by rw [h2]; exact h4
    rw [kcOf_eq h5]
    exact celOf_spec h5
theorem flatC_len (l : List Cel) : (flatC l).length = l.length * 3 := by
  induction l with
  | nil => rfl
  | cons x l ih =>
    have e : flatC (x :: l) = encC x ++ flatC l := by simp [flatC]
    rw [e, List.length_append, ih]
    simp [encC]
    omega
theorem flatC_all (l : List Cel) : ∀ (j : Nat) (u : Value), (flatC l)[j]? = some u → ∃ i c, l[i]? = some c ∧ ((j = i * 3 ∧ u = .int .i64 c.1) ∨ (j = i * 3 + 1 ∧ u = .int .i64 c.2.1) ∨ (j = i * 3 + 2 ∧ u = .int .i64 c.2.2)) := fun j u h => by
  have hj : j < l.length * 3 := by rw [← flatC_len]; exact (List.getElem?_eq_some_iff.1 h).1
  have hq : j / 3 < l.length := by omega
  refine ⟨j / 3, _, List.getElem?_eq_getElem hq, ?_⟩
  obtain ⟨h0, h1, h2⟩ := flatC_get (List.getElem?_eq_getElem hq)
  rcases (show j % 3 = 0 ∨ j % 3 = 1 ∨ j % 3 = 2 by omega) with hr | hr | hr
  · rw [show j / 3 * 3 = j by omega, h] at h0
    exact .inl ⟨by omega, by simpa using h0⟩
  · rw [show j / 3 * 3 + 1 = j by omega, h] at h1
    exact .inr (.inl ⟨by omega, by simpa using h1⟩)
  · rw [show j / 3 * 3 + 2 = j by omega, h] at h2
    exact .inr (.inr ⟨by omega, by simpa using h2⟩)
/-- A filled block as an abstract object. -/
theorem Filled.orel {P : Program} {w : World} {B : Nat} {T : TypeId} {l : List Cel} (h : Filled w B l.length T l) (θ : Env) : ORel P θ ⟨B, 0, 0, 0⟩ (.cells { n := l.length * 3, z := [], t := Tr.nil.setAll 0 (flatC l), elem := T, opn := false, ro := false }) w := by
  obtain ⟨arr, ha, has, hav⟩ := h
  refine ⟨fun k u e => ?_, fun _ => ⟨arr, ha, by simp [has], fun x => by cases x⟩, fun _ => rfl, fun _ _ => ⟨rfl, fun a2 e2 f2 h2 => by
    rw [ha] at h2
    simp only [Option.some.injEq, Obj.cells.injEq] at h2
    rw [← h2.1]; simp [has]⟩⟩
  have e' : (flatC l)[k]? = some u := at_list' (flatC l) T (l.length * 3) false (flatC_len l).symm k u e
  obtain ⟨i, c, hi, hc⟩ := flatC_all l k u e'
  obtain ⟨h0, h1, h2⟩ := hav i c hi
  refine ⟨u, ?_, ?_⟩
  · simp only [World.cell?, ha]
    rcases hc with ⟨rfl, rfl⟩ | ⟨rfl, rfl⟩ | ⟨rfl, rfl⟩
    · simpa using h0
    · simpa using h1
    · simpa using h2
  · rcases hc with ⟨_, rfl⟩ | ⟨_, rfl⟩ | ⟨_, rfl⟩ <;> exact .int _ _

theorem sumCells_ok : SumOk Tryz.prog (sumCells 104) := by
  intro f args h v h' e
  unfold sumCells at e
  cases hf : Nat.beq f 104 with
  | false => rw [hf] at e; cases e
  | true =>
    obtain rfl := Nat.eq_of_beq_eq_true hf
    rw [hf] at e
    simp only at e
    split at e
    · rename_i m
      split at e
      · rename_i es clock hg
        split at e
        · rename_i l hl
          cases hc : (bornOk clock es && ascC (isortC l) && Nat.ble l.length 4096) with
          | false => rw [hc] at e; cases e
          | true =>
            rw [hc] at e
            simp only [Bool.and_eq_true] at hc
            simp only [Option.some.injEq, Prod.mk.injEq] at e
            obtain ⟨rfl, rfl⟩ := e
            refine ⟨⟨_, _, Tryz.func104, rfl⟩, fun θ w args' k r ha => ?_⟩
            obtain ⟨x', rfl, hx⟩ := l1_inv ha
            obtain ⟨es', hes, hm⟩ := (r.obj m _ hg).2.2
            have hx' : x' = .map (some (θ.f m).blk) := by cases hx; rfl
            subst hx'
            obtain ⟨hbm, hcm⟩ := mrel_maps hm
            obtain ⟨hk1, hk2⟩ := hcm l hl
            obtain ⟨hb1, hb2⟩ := bornOk_spec hc.1.1
            have hlen : es'.size = l.length := by rw [(celsOf_spec hl).1, hm.len]; simp
            have hnd : l.Nodup := (isortC_perm l).nodup_iff.1 (asc_nodup hc.1.2)
            have hcon := cells_ok (θ.f m).blk es' clock kcOf w hes hk2 (by rw [hlen]; exact Nat.le_of_ble_eq_true hc.2)
              (fun e he => by
                have h1 : e.born ∈ es'.toList.map (·.born) := List.mem_map.2 ⟨e, he, rfl⟩
                rw [hbm] at h1
                obtain ⟨y, hy, hyb⟩ := List.mem_map.1 h1
                rw [← hyb]
                exact hb1 y hy)
              (by rw [hbm]; exact hb2) (by rw [hk1]; exact hnd)
            rw [hk1, hlen, isortC_eq hc.1.2] at hcon
            refine (callsIn_wide (n := k)).2 (hcon.mono ?_)
            rintro e' w' ⟨B, rfl, hB, hF, hbel⟩
            have hil : (isortC l).length = l.length := (isortC_perm l).length_eq
            have hF' : Filled w' B (isortC l).length 24 (isortC l) := by rw [hil]; exact hF
            have hor := hF'.orel (P := Tryz.prog) (θ.ext ⟨B, 0, 0, 0⟩)
            rw [hil] at hor
            obtain ⟨p, q⟩ := r.newAt (o := .cells { n := l.length * 3, z := [], t := Tr.nil.setAll 0 (flatC (isortC l)), elem := 24, opn := false, ro := false }) (th := ⟨B, 0, 0, 0⟩) (w' := w') hB hF.lt hbel.os hbel.tape hbel.output hbel.size (fun b hb => hbel.block b hb) hor
            refine ⟨_, θ.ext ⟨B, 0, 0, 0⟩, rfl, ?_, p, q⟩
            have hlt : l.length < OPEN := Nat.lt_of_le_of_lt (Nat.le_of_ble_eq_true hc.2) (by show 4096 < 18446744073709551616; decide)
            exact sliceTo_rel _ _ hlt (by rw [← r.nx, Env.ext_new]) (by rw [← r.nx, Env.ext_new]) (by rw [← r.nx]; exact Nat.lt_succ_self _)
        · cases e
      · cases e
    · cases e
end Go.Proofs
end

section
namespace Go.Proofs
open Go.AM Go.RowKit
theorem wax_names : NamesOk Tryz.prog := namesOk_of (by kernel_rfl)
theorem wax_mixed : Tryz.prog.follows .mixedOrders = true := by kernel_rfl
noncomputable def waxI (n : Int) : Value := .int .i64 n
noncomputable def ringL : List Value := [-1, -1, 0, -1, 0, 0, -1, 1, 0, 0, -1, 0, 0, 1, 0, 1, -1, 0, 1, 0, 0, 1, 1, 0].map waxI
noncomputable def blockL : List Value := [-1, -1, 0, -1, 0, 0, -1, 1, 0, 0, -1, 0, 0, 0, 0, 0, 1, 0, 1, -1, 0, 1, 0, 0, 1, 1, 0].map waxI
noncomputable def sum0 : Sum := sumCells 104
theorem sum0_ok : SumOk Tryz.prog sum0 := sumCells_ok
/-- What is known of a call with a row that is only read. -/
theorem memo_of {F : FuncId} {l : List Value} {n : Nat} {r : Value} {S S' : Sum} {k : Nat} {T : TypeId} (hS : SumOk Tryz.prog S) (hS' : SumOk Tryz.prog S')
    (h0 : 0 < n) (hl : l.all flat = true) (hr : flat r = true) (e : (callF Tryz.prog S' k F [sRow n] (hRow l T)).map (·.1) = some r) : SumOk Tryz.prog (memo F l n r S) := by
  rw [callF_eq] at e
  obtain ⟨⟨v, h'⟩, he, hv⟩ := Option.map_eq_some_iff.1 e
  simp only at hv
  subst hv
  exact memo_ok hS (callS_call wax_names wax_mixed hS' he).1 h0 hl hr fun w b o c hn hb hc => row_call wax_names wax_mixed hS' he hr hl hn hb hc
end Go.Proofs
end
