import Derived.Test.YtdiddniddohhgaaGreatDoorJobK
import Derived.Test.YtdiddniddohhgaaGreatDoorAwkS
import Derived.Maps.OwnOps
section
/- The fixed examples of chapter 9: Best of two jobs as a summary for the machine. -/
namespace Go.Proofs
open Go.AM Go.RowKit Go.MapKept
set_option maxRecDepth 1000000
set_option maxHeartbeats 4000000
noncomputable def isIb (v : Option Value) (n : Int) : Bool := match v with
  | some (.int .i64 m) => eqI m n
  | _ => false
theorem isIb_spec {v : Option Value} {n : Int} (h : isIb v n = true) : v = some (.int .i64 n) := by
  unfold isIb at h
  split at h
  · rw [eqI_eq] at h
    rw [of_decide_eq_true h]
  · cases h
def isSb (v : Option Value) (s : ByteArray) : Bool := match v with
  | some (.string t) => decide (t = s)
  | _ => false
theorem isSb_spec {v : Option Value} {s : ByteArray} (h : isSb v s = true) : v = some (.string s) := by
  unfold isSb at h
  split at h
  · rw [of_decide_eq_true h]
  · cases h
noncomputable def allIb (c : ACells) : Nat → List Int → Bool
  | _, [] => true
  | o, x :: l => isIb (c.at o) x && allIb c (o + 1) l
theorem allIb_spec {c : ACells} : ∀ {o : Nat} {l : List Int}, allIb c o l = true → ∀ i x, l[i]? = some x → c.at (o + i) = some (.int .i64 x)
  | o, [], _, i, x, hi => by simp at hi
  | o, y :: l, h, 0, x, hi => by
    unfold allIb at h
    rw [Bool.and_eq_true] at h
    obtain rfl : y = x := by simpa using hi
    exact isIb_spec h.1
  | o, y :: l, h, i + 1, x, hi => by
    unfold allIb at h
    rw [Bool.and_eq_true] at h
    have := allIb_spec h.2 i x (by simpa using hi)
    rw [show o + (i + 1) = o + 1 + i by omega]
    exact this
noncomputable def rdIb (h : AHeap) (v : Option Value) (l : List Int) : Bool := match v with
  | some (.slice (some ⟨b, o, none⟩) n _) => Nat.beq n l.length && (match h.get b with
    | some (.cells c) => allIb c o l
    | _ => false)
  | _ => false
theorem rdIb_spec {θ : Env} {h : AHeap} {w : World} (r : Rep Tryz.prog θ h w) {v v' : Value} {l : List Int} (e : rdIb h (some v) l = true) (hl : l ≠ []) (hv : VRel θ v v') : SlI w v' l := by
  unfold rdIb at e
  split at e
  · rename_i b o n c0 heq
    rw [Bool.and_eq_true] at e
    obtain ⟨e1, e2⟩ := e
    have e1 := Nat.eq_of_beq_eq_true e1
    have hp : 0 < l.length := List.length_pos_iff.2 hl
    split at e2
    · rename_i c hg
      obtain ⟨-, hbl, hor⟩ := r.obj b _ hg
      have hcr : CRel Tryz.prog θ (θ.f b) c w := hor
      have hI : IAt w (θ.f b).blk (o + (θ.f b).sh) l := fun i x hi => by
        obtain ⟨u, hu, hr⟩ := hcr.at_ (o + i) _ (allIb_spec e2 i x hi)
        cases hr
        rw [show o + (θ.f b).sh + i = o + i + (θ.f b).sh by omega]
        exact hu
      obtain rfl := Option.some.inj heq
      cases hv with
      | slice _ _ => rw [e1]; exact SlI.row hI hbl
      | sliceO _ _ _ => rw [e1]; exact SlI.row hI hbl
      | sliceE _ _ => omega
      | sliceZ _ => omega
    · cases e2
  · cases e
noncomputable def rdJb (h : AHeap) (c : ACells) : Nat → List JobT → Bool
  | _, [] => true
  | o, j :: l => (isSb (c.at o) j.1 && (rdIb h (c.at (o + 1)) j.2.1 && rdIb h (c.at (o + 2)) j.2.2)) && rdJb h c (o + 3) l
theorem rdJb_spec {θ : Env} {h : AHeap} {w : World} (r : Rep Tryz.prog θ h w) {th : Th} {c : ACells} (hcr : CRel Tryz.prog θ th c w) : ∀ {o : Nat} {js : List JobT}, rdJb h c o js = true → (∀ j ∈ js, j.2.1 ≠ [] ∧ j.2.2 ≠ []) → ∀ i j, js[i]? = some j → JobAt w th.blk (o + th.sh + i * 3) j
  | o, [], _, _, i, x, hi => by simp at hi
  | o, y :: js, e, hne, 0, x, hi => by
    obtain rfl : y = x := by simpa using hi
    unfold rdJb at e
    simp only [Bool.and_eq_true] at e
    obtain ⟨⟨e1, e2, e3⟩, -⟩ := e
    obtain ⟨h1, h2⟩ := hne y (List.mem_cons_self ..)
    obtain ⟨v0, q0, r0⟩ := hcr.at_ o _ (isSb_spec e1)
    cases r0
    cases ea : c.at (o + 1) with
    | none => rw [ea] at e2; cases e2
    | some va =>
      cases eb : c.at (o + 2) with
      | none => rw [eb] at e3; cases e3
      | some vb =>
        obtain ⟨v1, q1, r1⟩ := hcr.at_ (o + 1) _ ea
        obtain ⟨v2, q2, r2⟩ := hcr.at_ (o + 2) _ eb
        rw [ea] at e2
        rw [eb] at e3
        refine ⟨v1, v2, by simpa using q0, ?_, ?_, rdIb_spec r e2 h1 r1, rdIb_spec r e3 h2 r2⟩
        · rw [show o + th.sh + 0 * 3 + 1 = o + 1 + th.sh by omega]; exact q1
        · rw [show o + th.sh + 0 * 3 + 2 = o + 2 + th.sh by omega]; exact q2
  | o, y :: js, e, hne, i + 1, x, hi => by
    unfold rdJb at e
    simp only [Bool.and_eq_true] at e
    have := rdJb_spec r hcr e.2 (fun j hj => hne j (List.mem_cons_of_mem _ hj)) i x (by simpa using hi)
    rw [show o + th.sh + (i + 1) * 3 = o + 3 + th.sh + i * 3 by omega]
    exact this
def jobsL : List JobT := [(⟨#[97]⟩, [10, 5], [3]), (⟨#[98]⟩, [4, 8], [0])]
theorem jobsL_best : bestP 2 jobsL = some ([1, 0], 22) := by decide +kernel
theorem nameB_a : NameOk ⟨#[97]⟩ := ⟨by decide, by decide, fun i h => by
  have h1 : i < 1 := h
  match i, h, h1 with
  | 0, _, _ => exact .inl rfl
  | n + 1, _, h1 => exact absurd h1 (by omega)⟩
theorem nameB_b : NameOk ⟨#[98]⟩ := ⟨by decide, by decide, fun i h => by
  have h1 : i < 1 := h
  match i, h, h1 with
  | 0, _, _ => exact .inl rfl
  | n + 1, _, h1 => exact absurd h1 (by omega)⟩
theorem jobsL_ok : JobsOk 2 jobsL := by
  refine ⟨by decide, by decide, fun j hj => ?_, fun j hj => ?_, fun i k s t hki hs ht => ?_⟩
  · simp only [jobsL, List.mem_cons, List.not_mem_nil, or_false] at hj
    rcases hj with rfl | rfl
    · exact ⟨rfl, rfl, by decide, by decide, by decide⟩
    · exact ⟨rfl, rfl, by decide, by decide, by decide⟩
  · simp only [jobsL, List.mem_cons, List.not_mem_nil, or_false] at hj
    rcases hj with rfl | rfl
    · exact nameB_a
    · exact nameB_b
  · match i, k, hki, hs, ht with
    | 1, 0, _, hs, ht =>
      obtain rfl : (_, _) = s := by simpa [jobsL] using hs
      obtain rfl : (_, _) = t := by simpa [jobsL] using ht
      exact (show (⟨#[97]⟩ : ByteArray) ≠ ⟨#[98]⟩ by decide)
    | n + 2, _, _, _, ht => simp [jobsL] at ht
noncomputable def rowB : AObj := .cells { n := 2, z := [], t := Tr.nil.setAll 0 [.int .i64 1, .int .i64 0], elem := 3, opn := true, ro := true }
noncomputable def sumBest (F : FuncId) (S : Sum) : Sum := fun f args h => bif Nat.beq f F then (match args with
  | [.slice (some ⟨b, o, none⟩) n _] => match h.get b with
    | some (.cells c) => bif Nat.beq n 2 && rdJb h c o jobsL then some (.tuple #[.slice (some ⟨h.next, 0, none⟩) 2 OPEN, .int .i64 0], h.new rowB) else none
    | _ => none
  | _ => none) else S f args h
theorem sumBest_ok {S : Sum} (hS : SumOk Tryz.prog S) : SumOk Tryz.prog (sumBest 28 S) := by
  intro f args h v h' e
  unfold sumBest at e
  cases hf : Nat.beq f 28 with
  | false => rw [hf] at e; exact hS _ _ _ _ _ e
  | true =>
    obtain rfl := Nat.eq_of_beq_eq_true hf
    rw [hf] at e
    simp only [cond_true] at e
    split at e
    · rename_i b o n c0
      split at e
      · rename_i c hg
        cases hc : (Nat.beq n 2 && rdJb h c o jobsL) with
        | false => rw [hc] at e; cases e
        | true =>
          rw [hc] at e
          simp only [Bool.and_eq_true] at hc
          obtain ⟨q0, q1⟩ := hc
          obtain rfl := Nat.eq_of_beq_eq_true q0
          simp only [cond_true, Option.some.injEq, Prod.mk.injEq] at e
          obtain ⟨rfl, rfl⟩ := e
          refine ⟨⟨_, _, Tryz.func28, rfl⟩, fun θ w args' k r ha => ?_⟩
          obtain ⟨x', rfl, hx⟩ := l1_inv ha
          obtain ⟨-, hbl, hor⟩ := r.obj b _ hg
          have hcr : CRel Tryz.prog θ (θ.f b) c w := hor
          have hat := rdJb_spec r hcr q1 (by intro j hj; simp only [jobsL, List.mem_cons, List.not_mem_nil, or_false] at hj; rcases hj with rfl | rfl <;> exact ⟨by decide, by decide⟩)
          have hsl : SlJ w x' jobsL := by
            cases hx with
            | slice _ _ => exact .inr ⟨_, _, rfl, fun _ => ⟨rfl, hbl, hat⟩⟩
            | sliceO _ _ _ => exact .inr ⟨_, _, rfl, fun _ => ⟨rfl, hbl, hat⟩⟩
          have hcon := best_ok jobsL 2 x' w hsl jobsL_ok (by decide) ⟨by decide, by decide⟩
          refine (callsIn_wide (n := k)).2 (hcon.mono ?_)
          rintro e' w' ⟨⟨u, rfl, hR⟩, hbel⟩
          unfold BestR at hR
          rw [jobsL_best] at hR
          obtain ⟨ho, -⟩ := hR
          have ho' : OwnI 3 w' w.heap.size u [1, 0] := ho
          rcases ho'.2 with ⟨-, h1⟩ | ⟨g, cap, cur, rfl, hG, hgc, hnc, -, -, -⟩
          · cases h1
          have hgl := (Array.getElem?_eq_some_iff.1 hgc).1
          have hI := ho'.at_ rfl
          have hr0 : CRel Tryz.prog (θ.ext ⟨g, 0, cap, 1⟩) ⟨g, 0, cap, 1⟩ { n := 2, z := [], t := Tr.nil.setAll 0 [.int .i64 1, .int .i64 0], elem := 3, opn := true, ro := true } w' := by
            refine ⟨fun j u eu => ?_, fun x => (by cases x), fun _ => rfl, fun x => (by cases x)⟩
            have e5 : [Value.int .i64 1, Value.int .i64 0][j]? = some u := at_list' [Value.int .i64 1, Value.int .i64 0] 3 2 true (bs := true) rfl j u eu
            match j, e5 with
            | 0, e5 =>
              obtain rfl : Value.int .i64 1 = u := by simpa using e5
              exact ⟨_, by have := hI 0 1 rfl; simpa using this, .int _ _⟩
            | 1, e5 =>
              obtain rfl : Value.int .i64 0 = u := by simpa using e5
              exact ⟨_, by have := hI 1 0 rfl; simpa using this, .int _ _⟩
            | j + 2, e5 => simp at e5
          have hr1 : ORel Tryz.prog (θ.ext ⟨g, 0, cap, 1⟩) ⟨g, 0, cap, 1⟩ rowB w' := hr0
          obtain ⟨p, q⟩ := r.newAt (o := rowB) (th := ⟨g, 0, cap, 1⟩) (w' := w') hG hgl hbel.os hbel.tape hbel.output hbel.size (fun b hb => hbel.block b hb) hr1
          have hnx : (θ.ext ⟨g, 0, cap, 1⟩).nx = h.next + 1 := by rw [← r.nx]; rfl
          have hfn : (θ.ext ⟨g, 0, cap, 1⟩).f h.next = ⟨g, 0, cap, 1⟩ := by rw [← r.nx, Env.ext_new]
          refine ⟨_, θ.ext ⟨g, 0, cap, 1⟩, rfl, ?_, p, q⟩
          have hsv := VRel.sliceO (θ := θ.ext ⟨g, 0, cap, 1⟩) (b := h.next) (o := 0) (n := 2) (c := cap) (by rw [hnx]; omega) hnc (by rw [hfn]; simp)
          rw [hfn] at hsv
          refine .tuple rfl fun i a a' ha ha' => ?_
          match i, ha, ha' with
          | 0, ha, ha' =>
            obtain rfl := Option.some.inj ha
            obtain rfl := Option.some.inj ha'
            exact hsv
          | 1, ha, ha' =>
            obtain rfl := Option.some.inj ha
            obtain rfl := Option.some.inj ha'
            exact .int _ _
          | i + 2, ha, ha' => simp at ha
      · cases e
    · cases e
noncomputable def sumS : Sum := sumBest 28 sumT
theorem sumS_ok : SumOk Tryz.prog sumS := sumBest_ok sumT_ok
end Go.Proofs
end

section
/- shop.Fewest of three items: CheckItems by the machine, and a map from names to numbers. -/
namespace Go.Proofs
open Go.AM Go.RowKit Go.MapKept
set_option maxHeartbeats 4000000
set_option maxRecDepth 1000000
def itemsV : List Value := [.string ⟨#[97]⟩, .string ⟨#[112]⟩, .int .i64 3, .string ⟨#[98]⟩, .string ⟨#[113]⟩, .int .i64 4, .string ⟨#[99]⟩, .string ⟨#[112]⟩, .int .i64 2]
theorem row2_call {P : Program} (hN : NamesOk P) (hm : P.follows .mixedOrders = true) {S : Sum} (hS : SumOk P S) {k : Nat} {f : FuncId} {l : List Value} {elem : TypeId} {n : Nat} {x : Int} {r : Value} {h' : AHeap}
    (e : callS P S k f [sRow n, .int .i64 x] (hRow l elem) = some (r, h')) (hr : flat r = true) (hl : l.all flat = true) {w : World} {b o c : Nat} (hn : n ≤ c) (hb : b < w.heap.size)
    (hc : ∀ (i : Nat) (v : Value), l[i]? = some v → w.cell? ⟨b, i + o, none⟩ = some v) :
    Calls P f #[.slice (some ⟨b, o, none⟩) n c, .int .i64 x] w fun e w' => e = .returned r ∧ Below w.heap.size w w' := by
  let θ : Env := ⟨fun _ => ⟨b, o, o, 0⟩, 1⟩
  have rep : Rep P θ (hRow l elem) w := by
    refine ⟨rfl, fun i ob eo => ?_, fun i j oi oj ei ej hij => ?_, fun i _ => hb, fun g hg => absurd hg (Nat.not_lt_zero g)⟩
    · obtain ⟨rfl, rfl⟩ := hRow_get eo
      refine ⟨Nat.one_pos, hb, fun k v hk => ?_, (fun x => by cases x), (fun x => by cases x), fun x => by cases x⟩
      have hk := hRow_at hk
      exact ⟨v, hc k v hk, flat_rel (List.all_eq_true.1 hl v (List.mem_of_getElem? hk))⟩
    · obtain ⟨rfl, _⟩ := hRow_get ei
      obtain ⟨rfl, _⟩ := hRow_get ej
      exact (hij rfl).elim
  have ha : VRel θ (sRow n) (.slice (some ⟨b, o, none⟩) n c) := by
    have h1 := VRel.sliceO (θ := θ) (b := 0) (o := 0) (n := n) (c := c) Nat.one_pos hn (by show 0 + o + c * 0 = o; omega)
    have h2 : (0 + (θ.f 0).sh) = o := Nat.zero_add o
    rw [h2] at h1
    exact h1
  refine ((callS_call hN hm hS e).calls rep (.cons ha (.cons (.int _ _) .nil))).mono ?_
  rintro e' w' ⟨v', θ', rfl, hv, _, g⟩
  rw [flat_eq hr hv]
  refine ⟨rfl, g.below fun i ob eo => ?_⟩
  obtain ⟨_, rfl⟩ := hRow_get eo
  rfl
noncomputable def itemsR : Value × AHeap := ((callF Tryz.prog sumT 100000 17 [sRow 3, .int .i64 5] (hRow itemsV 48))).getD (.int .i64 0, hRow [] 0)
theorem itemsR_v : itemsR.1 = .int .i64 0 := by kernel_rfl
theorem itemsR_run : callF Tryz.prog sumT 100000 17 [sRow 3, .int .i64 5] (hRow itemsV 48) = some (.int .i64 0, itemsR.2) := by
  have h : (callF Tryz.prog sumT 100000 17 [sRow 3, .int .i64 5] (hRow itemsV 48)).isSome = true := by kernel_rfl
  obtain ⟨r, hr⟩ := Option.isSome_iff_exists.1 h
  have h2 : itemsR = r := by unfold itemsR; rw [hr]; rfl
  rw [hr, ← itemsR_v, h2]
theorem items_ok {w : World} {b o c : Nat} (hn : 3 ≤ c) (hb : b < w.heap.size) (hc : ∀ (i : Nat) (v : Value), itemsV[i]? = some v → w.cell? ⟨b, i + o, none⟩ = some v) :
    Calls Tryz.prog 17 #[.slice (some ⟨b, o, none⟩) 3 c, .int .i64 5] w fun e w' => e = .returned (.int .i64 0) ∧ Below w.heap.size w w' :=
  row2_call prog_names prog_mixed sumT_ok ((callF_eq ..).symm.trans itemsR_run) rfl rfl hn hb hc
end Go.Proofs
end
