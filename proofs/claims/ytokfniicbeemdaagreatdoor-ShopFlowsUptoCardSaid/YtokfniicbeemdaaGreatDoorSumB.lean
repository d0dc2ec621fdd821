import Derived.Test.YtokfniicbeemdaaGreatDoorJbU
import Derived.Test.YtokfniicbeemdaaGreatDoorOpenGuide
import Derived.Test.YtokfniicbeemdaaGreatDoorJobK
import Derived.Test.YtokfniicbeemdaaGreatDoorAwkS
section
/- Arguments that are jobs, a list of ints, or a list of lists of ints. -/
namespace Go.Proofs.YtokfniicbeemdaaGreatDoor
open Go.ChangeShapes Go.WideShapes Go.Deep Go.RowKit
set_option maxRecDepth 100000
def CapL (L : List JobV) : Prop := ∀ x ∈ L, x.2.1.2.1 ≤ x.2.1.2.2 ∧ x.2.2.2.1 ≤ x.2.2.2.2
section
variable {H : Type} {enc : TypeId × Value → H} {w : World}
theorem open_intsJ {n : Nat} {u : Value} {y : DataW H × List MemPlace} (h : DataW.trod enc Tryz.prog w 0 (fun _ => true) true n 23 [u] = some y) : ∃ (l : List Int) (A : Option Addr) (k c : Nat), u = .slice A k c ∧ SlI w (.slice A k c) l ∧ k ≤ c := by
  have hint : ∀ {n : Nat} {u : Value} {y : DataW H × List MemPlace}, DataW.trod enc Tryz.prog w 0 (fun _ => true) true n 3 [u] = some y → ∃ x : Int, u = .int .i64 x := fun {n u y} h => by
    obtain ⟨x, hx, _⟩ := DataW.trod_int Tryz.underlying3 h
    exact ⟨x, by simpa using hx⟩
  rcases open_slice1 Tryz.underlying23 (by kernel_rfl) h with ⟨hcs, _⟩ | ⟨a, len, cap, m, n', V, D, Pl, hcs, hb, hl, hm, hmm, hx, hi⟩
  · obtain rfl : u = .slice none 0 0 := by simpa using hcs
    exact ⟨[], none, 0, 0, rfl, .inl ⟨rfl, rfl⟩, Nat.le_refl _⟩
  · obtain rfl : u = .slice (some a) len cap := by simpa using hcs
    simp only [if_true] at hmm
    subst hmm
    have hcel : ∀ i, i < len → ∃ x : Int, w.cell? (a.add i) = some (.int .i64 x) := fun i hin => by
      obtain ⟨h1, h2⟩ := hi i (by omega)
      obtain ⟨x, hx⟩ := hint h2
      exact ⟨x, by rw [h1, hx]⟩
    obtain ⟨l, hlen, hl'⟩ := list_of _ len hcel
    refine ⟨l, some a, len, m, rfl, .inr ⟨a, m, by rw [hlen], fun hne => ?_⟩, hl⟩
    obtain ⟨c, hc⟩ : ∃ c, l[0]? = some c := ⟨_, List.getElem?_eq_getElem (List.length_pos_iff.2 hne)⟩
    have hc0 := hl' 0 c hc
    obtain ⟨b, o, sp⟩ := a
    obtain rfl : sp = none := by simpa [Addr.add] using World.cell?_spot hc0
    have hadd : ∀ k : Nat, (⟨b, o, none⟩ : Addr).add k = ⟨b, o + k, none⟩ := fun k => by
      unfold Addr.add
      split
      · simp_all
      · rfl
    refine ⟨rfl, ?_, fun i c hi => ?_⟩
    · rcases Nat.lt_or_ge b w.heap.size with h | h
      · exact h
      · simp [World.cell?, Addr.add, Array.getElem?_eq_none h] at hc0
    · have r0 := hl' i c hi
      rw [hadd] at r0
      exact r0
theorem open_ints {v : Value} {d : DataW H} {p : List MemPlace} (h : DataW.Trod enc Tryz.prog w 0 (fun _ => true) true 23 v d p) (hv : ∃ (A : Option Addr) (n cap : Nat), v = .slice A n cap) : ∃ l : List Int, SlI w v l := by
  obtain ⟨A, n0, c0, rfl⟩ := hv
  obtain ⟨fuel, hf⟩ := h
  obtain ⟨l, A', k, c, e, hs, -⟩ := open_intsJ (u := .slice A n0 c0) hf
  exact ⟨l, by rw [e]; exact hs⟩
theorem open_lists {v : Value} {d : DataW H} {p : List MemPlace} (h : DataW.Trod enc Tryz.prog w 0 (fun _ => true) true 48 v d p) (hv : ∃ (A : Option Addr) (n cap : Nat), v = .slice A n cap) : ∃ l : List (List Int), SlLL w v l := by
  obtain ⟨A, n0, c0, rfl⟩ := hv
  obtain ⟨fuel, hf⟩ := h
  rcases open_slice1 (cs := [.slice A n0 c0]) Tryz.underlying48 (by kernel_rfl) hf with ⟨hcs, _⟩ | ⟨a, len, cap, m, n', V, D, Pl, hcs, hb, hl, hm, hmm, hx, hi⟩
  · have hcs : (Value.slice A n0 c0) = .slice none 0 0 := by simpa using hcs
    rw [hcs]
    exact ⟨[], .inl ⟨rfl, rfl⟩⟩
  · have hcs : (Value.slice A n0 c0) = .slice (some a) len cap := by simpa using hcs
    rw [hcs]
    have hcel : ∀ i, i < len → ∃ x : List Int, ∃ u, w.cell? (a.add i) = some u ∧ SlI w u x := fun i hin => by
      simp only [if_true] at hmm
      subst hmm
      obtain ⟨h1, h2⟩ := hi i (by omega)
      obtain ⟨l, A', k, c, e, hs, -⟩ := open_intsJ h2
      exact ⟨l, _, h1, by rw [e]; exact hs⟩
    obtain ⟨l, hlen, hl'⟩ := list_of _ len hcel
    refine ⟨l, .inr ⟨a, cap, by rw [hlen], fun hne => ?_⟩⟩
    obtain ⟨c, hc⟩ : ∃ c, l[0]? = some c := ⟨_, List.getElem?_eq_getElem (List.length_pos_iff.2 hne)⟩
    obtain ⟨u0, hc0, -⟩ := hl' 0 c hc
    obtain ⟨b, o, sp⟩ := a
    obtain rfl : sp = none := by simpa [Addr.add] using World.cell?_spot hc0
    have hadd : ∀ k : Nat, (⟨b, o, none⟩ : Addr).add k = ⟨b, o + k, none⟩ := fun k => by
      unfold Addr.add
      split
      · simp_all
      · rfl
    refine ⟨rfl, ?_, fun i c hi => ?_⟩
    · rcases Nat.lt_or_ge b w.heap.size with h | h
      · exact h
      · simp [World.cell?, Addr.add, Array.getElem?_eq_none h] at hc0
    · have r0 := hl' i c hi
      rw [hadd] at r0
      exact r0
theorem open_job1 {n : Nat} {cs : List Value} {y : DataW H × List MemPlace} (h : DataW.trod enc Tryz.prog w 0 (fun _ => true) true n 70 cs = some y) (hl : cs.length = 3) : ∃ t : JobV × JobT, cs = encJ t.1 ∧ t.1.1 = t.2.1 ∧ SlI w (vS t.1.2.1) t.2.2.1 ∧ SlI w (vS t.1.2.2) t.2.2.2 ∧ t.1.2.1.2.1 ≤ t.1.2.1.2.2 ∧ t.1.2.2.2.1 ≤ t.1.2.2.2.2 := by
  obtain ⟨f0, f1, f2, he, k0, k1, k2, o0, o1, o2, hs, hi⟩ : ∃ f0 f1 f2 : Field, Tryz.prog.underlying 70 = some (.struct #[f0, f1, f2]) ∧ f0.type = 9 ∧ f1.type = 23 ∧ f2.type = 23 ∧ f0.offset = 0 ∧ f1.offset = 1 ∧ f2.offset = 2 ∧ Tryz.prog.cellsOf 9 = 1 ∧ Tryz.prog.cellsOf 23 = 1 :=
    ⟨_, _, _, Tryz.underlying70, rfl, rfl, rfl, rfl, rfl, rfl, by kernel_rfl, by kernel_rfl⟩
  match cs, hl with
  | [c0, c1, c2], _ =>
    obtain ⟨xs, m, _, _, _, hlen, hg⟩ := DataW.trod_struct he h
    have g0 := hg 0 f0 rfl
    have g1 := hg 1 f1 rfl
    have g2 := hg 2 f2 rfl
    rw [k0, o0, hs] at g0
    rw [k1, o1, hi] at g1
    rw [k2, o2, hi] at g2
    match xs, hlen with
    | [y0, y1, y2], _ =>
      obtain ⟨s0, hs0, _⟩ := DataW.trod_string (x := y0) Tryz.underlying9 g0
      obtain ⟨l1, A1, n1, c1', e1, h1, p1⟩ := open_intsJ (y := y1) g1
      obtain ⟨l2, A2, n2, c2', e2, h2, p2⟩ := open_intsJ (y := y2) g2
      obtain rfl : c0 = .string s0 := by simpa using hs0
      subst e1 e2
      exact ⟨((s0, (A1, n1, c1'), (A2, n2, c2')), (s0, l1, l2)), rfl, rfl, h1, h2, p1, p2⟩
theorem open_jobs {v : Value} {d : DataW H} {p : List MemPlace} (h : DataW.Trod enc Tryz.prog w 0 (fun _ => true) true 44 v d p) (hv : ∃ (A : Option Addr) (n cap : Nat), v = .slice A n cap) :
    ∃ (L : List JobV) (J : List JobT), SlF encJ w v L ∧ InJ w L J ∧ L.length ≤ Rows.uptoBulk d ∧ CapL L := by
  obtain ⟨A, n0, c0, rfl⟩ := hv
  obtain ⟨fuel, hf⟩ := h
  have hC : Tryz.prog.cellsOf 70 = 3 := by kernel_rfl
  rcases open_slice Tryz.underlying44 hf with ⟨hcs, hx⟩ | ⟨a, len, cap, m, n', D, Pl, hcs, hb, hl, hm, hmm, hx, hi⟩
  · simp [Value.cells] at hcs
    obtain ⟨rfl, rfl, rfl⟩ := hcs
    exact ⟨[], [], .inl ⟨rfl, rfl⟩, ⟨rfl, fun k x j h => by simp at h⟩, by simp, fun x hx => by simp at hx⟩
  · simp [Value.cells] at hcs
    obtain ⟨rfl, rfl, rfl⟩ := hcs
    simp only [if_true] at hmm
    subst hmm
    have hcel : ∀ i, i < n0 → ∃ t : JobV × JobT, (∀ j u, (encJ t.1)[j]? = some u → w.cell? (a.add (i * 3 + j)) = some u) ∧ t.1.1 = t.2.1 ∧ SlI w (vS t.1.2.1) t.2.2.1 ∧ SlI w (vS t.1.2.2) t.2.2.2 ∧ t.1.2.1.2.1 ≤ t.1.2.1.2.2 ∧ t.1.2.2.2.1 ≤ t.1.2.2.2.2 := fun i hin => by
      obtain ⟨cs', hc, ht'⟩ := hi i (by omega)
      rw [hC] at hc
      obtain ⟨_, hcl, hat⟩ := World.cells?_some hc
      obtain ⟨t, rfl, ht1, ht2, ht3, ht4⟩ := open_job1 ht' hcl
      refine ⟨t, fun j u hu => ?_, ht1, ht2, ht3, ht4⟩
      have hj : j < 3 := (List.getElem?_eq_some_iff.1 hu).1
      have h0 := hat j hj
      rw [Go.Deep.add_add] at h0
      rw [h0]
      exact hu
    obtain ⟨l, hlen, hl'⟩ := list_of _ n0 hcel
    refine ⟨l.map (·.1), l.map (·.2), .inr ⟨a, m, by rw [List.length_map, hlen], fun hne => ?_⟩, ⟨by simp, fun k x j hx hj => ?_⟩, ?_, fun x hx => ?_⟩
    · have hne : l ≠ [] := fun e => hne (by rw [e]; rfl)
      obtain ⟨c, hc⟩ : ∃ c, l[0]? = some c := ⟨_, List.getElem?_eq_getElem (List.length_pos_iff.2 hne)⟩
      have hc0 := (hl' 0 c hc).1 0 _ rfl
      obtain ⟨b, o, sp⟩ := a
      obtain rfl : sp = none := by simpa [Addr.add] using World.cell?_spot hc0
      have hadd : ∀ k : Nat, (⟨b, o, none⟩ : Addr).add k = ⟨b, o + k, none⟩ := fun k => by
        unfold Addr.add
        split
        · simp_all
        · rfl
      refine ⟨rfl, ?_, fun j u hu => ?_⟩
      · rcases Nat.lt_or_ge b w.heap.size with h | h
        · exact h
        · simp [World.cell?, Addr.add, Array.getElem?_eq_none h] at hc0
      · have hjl : j < l.length * 3 := by
          have := (List.getElem?_eq_some_iff.1 hu).1
          rw [flatF_len encJ_len, List.length_map] at this
          exact this
        obtain ⟨t, ht⟩ : ∃ t, l[j / 3]? = some t := ⟨_, List.getElem?_eq_getElem (by omega)⟩
        have hm1 : (l.map (·.1))[j / 3]? = some t.1 := by rw [List.getElem?_map, ht]; rfl
        have h1 := flatF_get encJ_len (j := j % 3) hm1 (by omega)
        rw [show j / 3 * 3 + j % 3 = j by omega, hu] at h1
        have h2 := (hl' _ t ht).1 (j % 3) u h1.symm
        rw [show j / 3 * 3 + j % 3 = j by omega, hadd] at h2
        exact h2
    · rw [List.getElem?_map] at hx hj
      cases ht : l[k]? with
      | none => rw [ht] at hx; cases hx
      | some t =>
        rw [ht] at hx hj
        obtain rfl : t.1 = x := Option.some.inj hx
        obtain rfl : t.2 = j := Option.some.inj hj
        obtain ⟨-, g1, g2, g3, -⟩ := hl' k t ht
        exact ⟨g1, g2, g3⟩
    · simp only [Prod.mk.injEq] at hx
      rw [hx.1]
      have hb := bulk_len ((List.range n0).map D)
      simp only [Rows.uptoBulk]
      rw [List.length_map, List.length_range] at hb
      rw [List.length_map]
      omega
    · obtain ⟨t, ht, rfl⟩ := List.mem_map.1 hx
      obtain ⟨k, hk⟩ := List.mem_iff_getElem?.1 ht
      exact (hl' k t hk).2.2.2.2
end
end Go.Proofs.YtokfniicbeemdaaGreatDoor
end

section
/- The fixed examples of chapter 9: Best of two jobs as a summary for the machine. -/
namespace Go.Proofs
open Go.AM Go.RowKit Go.MapKept
set_option maxRecDepth 1000000
set_option maxHeartbeats 4000000
noncomputable def isIb (v : Option Value) (n : Int) : Bool := match v with
  | some (.int .i64 m) => eqI m n
  | _ => false
theorem isIb_spec {v : Option Value} {n : Int} (h : isIb v n = true) : v = some (.int .i64 n) := by
  unfold isIb at h
  split at h
  · rw [eqI_eq] at h
    rw [of_decide_eq_true h]
  · cases h
def isSb (v : Option Value) (s : ByteArray) : Bool := match v with
  | some (.string t) => decide (t = s)
  | _ => false
theorem isSb_spec {v : Option Value} {s : ByteArray} (h : isSb v s = true) : v = some (.string s) := by
  unfold isSb at h
  split at h
  · rw [of_decide_eq_true h]
  · cases h
noncomputable def allIb (c : ACells) : Nat → List Int → Bool
  | _, [] => true
  | o, x :: l => isIb (c.at o) x && allIb c (o + 1) l
theorem allIb_spec {c : ACells} : ∀ {o : Nat} {l : List Int}, allIb c o l = true → ∀ i x, l[i]? = some x → c.at (o + i) = some (.int .i64 x)
  | o, [], _, i, x, hi => by simp at hi
  | o, y :: l, h, 0, x, hi => by
    unfold allIb at h
    rw [Bool.and_eq_true] at h
    obtain rfl : y = x := by simpa using hi
    exact isIb_spec h.1
  | o, y :: l, h, i + 1, x, hi => by
    unfold allIb at h
    rw [Bool.and_eq_true] at h
    have := allIb_spec h.2 i x (by simpa using hi)
    rw [show o + (i + 1) = o + 1 + i by omega]
    exact this
noncomputable def rdIb (h : AHeap) (v : Option Value) (l : List Int) : Bool := match v with
  | some (.slice (some ⟨b, o, none⟩) n _) => Nat.beq n l.length && (match h.get b with
    | some (.cells c) => allIb c o l
    | _ => false)
  | _ => false
theorem rdIb_spec {θ : Env} {h : AHeap} {w : World} (r : Rep Tryz.prog θ h w) {v v' : Value} {l : List Int} (e : rdIb h (some v) l = true) (hl : l ≠ []) (hv : VRel θ v v') : SlI w v' l := by
  unfold rdIb at e
  split at e
  · rename_i b o n c0 heq
    rw [Bool.and_eq_true] at e
    obtain ⟨e1, e2⟩ := e
    have e1 := Nat.eq_of_beq_eq_true e1
    have hp : 0 < l.length := List.length_pos_iff.2 hl
    split at e2
    · rename_i c hg
      obtain ⟨-, hbl, hor⟩ := r.obj b _ hg
      have hcr : CRel Tryz.prog θ (θ.f b) c w := hor
      have hI : IAt w (θ.f b).blk (o + (θ.f b).sh) l := fun i x hi => by
        obtain ⟨u, hu, hr⟩ := hcr.at_ (o + i) _ (allIb_spec e2 i x hi)
        cases hr
        rw [show o + (θ.f b).sh + i = o + i + (θ.f b).sh by omega]
        exact hu
      obtain rfl := Option.some.inj heq
      cases hv with
      | slice _ _ => rw [e1]; exact SlI.row hI hbl
      | sliceO _ _ _ => rw [e1]; exact SlI.row hI hbl
      | sliceE _ _ => omega
      | sliceZ _ => omega
    · cases e2
  · cases e
noncomputable def rdJb (h : AHeap) (c : ACells) : Nat → List JobT → Bool
  | _, [] => true
  | o, j :: l => (isSb (c.at o) j.1 && (rdIb h (c.at (o + 1)) j.2.1 && rdIb h (c.at (o + 2)) j.2.2)) && rdJb h c (o + 3) l
theorem rdJb_spec {θ : Env} {h : AHeap} {w : World} (r : Rep Tryz.prog θ h w) {th : Th} {c : ACells} (hcr : CRel Tryz.prog θ th c w) : ∀ {o : Nat} {js : List JobT}, rdJb h c o js = true → (∀ j ∈ js, j.2.1 ≠ [] ∧ j.2.2 ≠ []) → ∀ i j, js[i]? = some j → JobAt w th.blk (o + th.sh + i * 3) j
  | o, [], _, _, i, x, hi => by simp at hi
  | o, y :: js, e, hne, 0, x, hi => by
    obtain rfl : y = x := by simpa using hi
    unfold rdJb at e
    simp only [Bool.and_eq_true] at e
    obtain ⟨⟨e1, e2, e3⟩, -⟩ := e
    obtain ⟨h1, h2⟩ := hne y (List.mem_cons_self ..)
    obtain ⟨v0, q0, r0⟩ := hcr.at_ o _ (isSb_spec e1)
    cases r0
    cases ea : c.at (o + 1) with
    | none => rw [ea] at e2; cases e2
    | some va =>
      cases eb : c.at (o + 2) with
      | none => rw [eb] at e3; cases e3
      | some vb =>
        obtain ⟨v1, q1, r1⟩ := hcr.at_ (o + 1) _ ea
        obtain ⟨v2, q2, r2⟩ := hcr.at_ (o + 2) _ eb
        rw [ea] at e2
        rw [eb] at e3
        refine ⟨v1, v2, by simpa using q0, ?_, ?_, rdIb_spec r e2 h1 r1, rdIb_spec r e3 h2 r2⟩
        · rw [show o + th.sh + 0 * 3 + 1 = o + 1 + th.sh by omega]; exact q1
        · rw [show o + th.sh + 0 * 3 + 2 = o + 2 + th.sh by omega]; exact q2
  | o, y :: js, e, hne, i + 1, x, hi => by
    unfold rdJb at e
    simp only [Bool.and_eq_true] at e
    have := rdJb_spec r hcr e.2 (fun j hj => hne j (List.mem_cons_of_mem _ hj)) i x (by simpa using hi)
    rw [show o + th.sh + (i + 1) * 3 = o + 3 + th.sh + i * 3 by omega]
    exact this
def jobsL : List JobT := [(⟨#[97]⟩, [10, 5], [3]), (⟨#[98]⟩, [4, 8], [0])]
theorem jobsL_best : bestP 2 jobsL = some ([1, 0], 22) := by decide +kernel
theorem nameB_a : NameOk ⟨#[97]⟩ := ⟨by decide, by decide, fun i h => by
  have h1 : i < 1 := h
  match i, h, h1 with
  | 0, _, _ => exact .inl rfl
  | n + 1, _, h1 => exact absurd h1 (by omega)⟩
theorem nameB_b : NameOk ⟨#[98]⟩ := ⟨by decide, by decide, fun i h => by
  have h1 : i < 1 := h
  match i, h, h1 with
  | 0, _, _ => exact .inl rfl
  | n + 1, _, h1 => exact absurd h1 (by omega)⟩
theorem jobsL_ok : JobsOk 2 jobsL := by
  refine ⟨by decide, by decide, fun j hj => ?_, fun j hj => ?_, fun i k s t hki hs ht => ?_⟩
  · simp only [jobsL, List.mem_cons, List.not_mem_nil, or_false] at hj
    rcases hj with rfl | rfl
    · exact ⟨rfl, rfl, by decide, by decide, by decide⟩
    · exact ⟨rfl, rfl, by decide, by decide, by decide⟩
  · simp only [jobsL, List.mem_cons, List.not_mem_nil, or_false] at hj
    rcases hj with rfl | rfl
    · exact nameB_a
    · exact nameB_b
  · match i, k, hki, hs, ht with
    | 1, 0, _, hs, ht =>
      obtain rfl : (_, _) = s := by simpa [jobsL] using hs
      obtain rfl : (_, _) = t := by simpa [jobsL] using ht
      exact (show (⟨#[97]⟩ : ByteArray) ≠ ⟨#[98]⟩ by decide)
    | n + 2, _, _, _, ht => simp [jobsL] at ht
noncomputable def rowB : AObj := .cells { n := 2, z := [], t := Tr.nil.setAll 0 [.int .i64 1, .int .i64 0], elem := 3, opn := true, ro := true }
noncomputable def sumBest (F : FuncId) (S : Sum) : Sum := fun f args h => bif Nat.beq f F then (match args with
  | [.slice (some ⟨b, o, none⟩) n _] => match h.get b with
    | some (.cells c) => bif Nat.beq n 2 && rdJb h c o jobsL then some (.tuple #[.slice (some ⟨h.next, 0, none⟩) 2 OPEN, .int .i64 0], h.new rowB) else none
    | _ => none
  | _ => none) else S f args h
theorem sumBest_ok {S : Sum} (hS : SumOk Tryz.prog S) : SumOk Tryz.prog (sumBest 26 S) := by
  intro f args h v h' e
  unfold sumBest at e
  cases hf : Nat.beq f 26 with
  | false => rw [hf] at e; exact hS _ _ _ _ _ e
  | true =>
    obtain rfl := Nat.eq_of_beq_eq_true hf
    rw [hf] at e
    simp only [cond_true] at e
    split at e
    · rename_i b o n c0
      split at e
      · rename_i c hg
        cases hc : (Nat.beq n 2 && rdJb h c o jobsL) with
        | false => rw [hc] at e; cases e
        | true =>
          rw [hc] at e
          simp only [Bool.and_eq_true] at hc
          obtain ⟨q0, q1⟩ := hc
          obtain rfl := Nat.eq_of_beq_eq_true q0
          simp only [cond_true, Option.some.injEq, Prod.mk.injEq] at e
          obtain ⟨rfl, rfl⟩ := e
          refine ⟨⟨_, _, Tryz.func26, rfl⟩, fun θ w args' k r ha => ?_⟩
          obtain ⟨x', rfl, hx⟩ := l1_inv ha
          obtain ⟨-, hbl, hor⟩ := r.obj b _ hg
          have hcr : CRel Tryz.prog θ (θ.f b) c w := hor
          have hat := rdJb_spec r hcr q1 (by intro j hj; simp only [jobsL, List.mem_cons, List.not_mem_nil, or_false] at hj; rcases hj with rfl | rfl <;> exact ⟨by decide, by decide⟩)
          have hsl : SlJ w x' jobsL := by
            cases hx with
            | slice _ _ => exact .inr ⟨_, _, rfl, fun _ => ⟨rfl, hbl, hat⟩⟩
            | sliceO _ _ _ => exact .inr ⟨_, _, rfl, fun _ => ⟨rfl, hbl, hat⟩⟩
          have hcon := best_ok jobsL 2 x' w hsl jobsL_ok (by decide) ⟨by decide, by decide⟩
          refine (callsIn_wide (n := k)).2 (hcon.mono ?_)
          rintro e' w' ⟨⟨u, rfl, hR⟩, hbel⟩
          unfold BestR at hR
          rw [jobsL_best] at hR
          obtain ⟨ho, -⟩ := hR
          have ho' : OwnI 3 w' w.heap.size u [1, 0] := ho
          rcases ho'.2 with ⟨-, h1⟩ | ⟨g, cap, cur, rfl, hG, hgc, hnc, -, -, -⟩
          · cases h1
          have hgl := (Array.getElem?_eq_some_iff.1 hgc).1
          have hI := ho'.at_ rfl
          have hr0 : CRel Tryz.prog (θ.ext ⟨g, 0, cap, 1⟩) ⟨g, 0, cap, 1⟩ { n := 2, z := [], t := Tr.nil.setAll 0 [.int .i64 1, .int .i64 0], elem := 3, opn := true, ro := true } w' := by
            refine ⟨fun j u eu => ?_, fun x => (by cases x), fun _ => rfl, fun x => (by cases x)⟩
            have e5 : [Value.int .i64 1, Value.int .i64 0][j]? = some u := at_list' [Value.int .i64 1, Value.int .i64 0] 3 2 true (bs := true) rfl j u eu
            match j, e5 with
            | 0, e5 =>
              obtain rfl : Value.int .i64 1 = u := by simpa using e5
              exact ⟨_, by have := hI 0 1 rfl; simpa using this, .int _ _⟩
            | 1, e5 =>
              obtain rfl : Value.int .i64 0 = u := by simpa using e5
              exact ⟨_, by have := hI 1 0 rfl; simpa using this, .int _ _⟩
            | j + 2, e5 => simp at e5
          have hr1 : ORel Tryz.prog (θ.ext ⟨g, 0, cap, 1⟩) ⟨g, 0, cap, 1⟩ rowB w' := hr0
          obtain ⟨p, q⟩ := r.newAt (o := rowB) (th := ⟨g, 0, cap, 1⟩) (w' := w') hG hgl hbel.os hbel.tape hbel.output hbel.size (fun b hb => hbel.block b hb) hr1
          have hnx : (θ.ext ⟨g, 0, cap, 1⟩).nx = h.next + 1 := by rw [← r.nx]; rfl
          have hfn : (θ.ext ⟨g, 0, cap, 1⟩).f h.next = ⟨g, 0, cap, 1⟩ := by rw [← r.nx, Env.ext_new]
          refine ⟨_, θ.ext ⟨g, 0, cap, 1⟩, rfl, ?_, p, q⟩
          have hsv := VRel.sliceO (θ := θ.ext ⟨g, 0, cap, 1⟩) (b := h.next) (o := 0) (n := 2) (c := cap) (by rw [hnx]; omega) hnc (by rw [hfn]; simp)
          rw [hfn] at hsv
          refine .tuple rfl fun i a a' ha ha' => ?_
          match i, ha, ha' with
          | 0, ha, ha' =>
            obtain rfl := Option.some.inj ha
            obtain rfl := Option.some.inj ha'
            exact hsv
          | 1, ha, ha' =>
            obtain rfl := Option.some.inj ha
            obtain rfl := Option.some.inj ha'
            exact .int _ _
          | i + 2, ha, ha' => simp at ha
      · cases e
    · cases e
noncomputable def sumS : Sum := sumBest 26 sumT
theorem sumS_ok : SumOk Tryz.prog sumS := sumBest_ok sumT_ok
end Go.Proofs
end
