import Derived.Test.YtokfniicbeemdaaGreatDoorSumB
import Derived.Maps.OwnOps
import Derived.Test.YtokfniicbeemdaaGreatDoorShdH
section
/- shop.Fewest of three items: CheckItems by the machine, and a map from names to numbers. -/
namespace Go.Proofs
open Go.AM Go.RowKit Go.MapKept
set_option maxHeartbeats 4000000
set_option maxRecDepth 1000000
def itemsV : List Value := [.string ⟨#[97]⟩, .string ⟨#[112]⟩, .int .i64 3, .string ⟨#[98]⟩, .string ⟨#[113]⟩, .int .i64 4, .string ⟨#[99]⟩, .string ⟨#[112]⟩, .int .i64 2]
theorem row2_call {P : Program} (hN : NamesOk P) (hm : P.follows .mixedOrders = true) {S : Sum} (hS : SumOk P S) {k : Nat} {f : FuncId} {l : List Value} {elem : TypeId} {n : Nat} {x : Int} {r : Value} {h' : AHeap}
    (e : callS P S k f [sRow n, .int .i64 x] (hRow l elem) = some (r, h')) (hr : flat r = true) (hl : l.all flat = true) {w : World} {b o c : Nat} (hn : n ≤ c) (hb : b < w.heap.size)
    (hc : ∀ (i : Nat) (v : Value), l[i]? = some v → w.cell? ⟨b, i + o, none⟩ = some v) :
    Calls P f #[.slice (some ⟨b, o, none⟩) n c, .int .i64 x] w fun e w' => e = .returned r ∧ Below w.heap.size w w' := by
  let θ : Env := ⟨fun _ => ⟨b, o, o, 0⟩, 1⟩
  have rep : Rep P θ (hRow l elem) w := by
    refine ⟨rfl, fun i ob eo => ?_, fun i j oi oj ei ej hij => ?_, fun i _ => hb, fun g hg => absurd hg (Nat.not_lt_zero g)⟩
    · obtain ⟨rfl, rfl⟩ := hRow_get eo
      refine ⟨Nat.one_pos, hb, fun k v hk => ?_, (fun x => by cases x), (fun x => by cases x), fun x => by cases x⟩
      have hk := hRow_at hk
      exact ⟨v, hc k v hk, flat_rel (List.all_eq_true.1 hl v (List.mem_of_getElem? hk))⟩
    · obtain ⟨rfl, _⟩ := hRow_get ei
      obtain ⟨rfl, _⟩ := hRow_get ej
      exact (hij rfl).elim
  have ha : VRel θ (sRow n) (.slice (some ⟨b, o, none⟩) n c) := by
    have h1 := VRel.sliceO (θ := θ) (b := 0) (o := 0) (n := n) (c := c) Nat.one_pos hn (by show 0 + o + c * 0 = o; omega)
    have h2 : (0 + (θ.f 0).sh) = o := Nat.zero_add o
    rw [h2] at h1
    exact h1
  refine ((callS_call hN hm hS e).calls rep (.cons ha (.cons (.int _ _) .nil))).mono ?_
  rintro e' w' ⟨v', θ', rfl, hv, _, g⟩
  rw [flat_eq hr hv]
  refine ⟨rfl, g.below fun i ob eo => ?_⟩
  obtain ⟨_, rfl⟩ := hRow_get eo
  rfl
noncomputable def itemsR : Value × AHeap := ((callF Tryz.prog sumT 100000 20 [sRow 3, .int .i64 5] (hRow itemsV 73))).getD (.int .i64 0, hRow [] 0)
theorem itemsR_v : itemsR.1 = .int .i64 0 := by kernel_rfl
theorem itemsR_run : callF Tryz.prog sumT 100000 20 [sRow 3, .int .i64 5] (hRow itemsV 73) = some (.int .i64 0, itemsR.2) := by
  have h : (callF Tryz.prog sumT 100000 20 [sRow 3, .int .i64 5] (hRow itemsV 73)).isSome = true := by kernel_rfl
  obtain ⟨r, hr⟩ := Option.isSome_iff_exists.1 h
  have h2 : itemsR = r := by unfold itemsR; rw [hr]; rfl
  rw [hr, ← itemsR_v, h2]
theorem items_ok {w : World} {b o c : Nat} (hn : 3 ≤ c) (hb : b < w.heap.size) (hc : ∀ (i : Nat) (v : Value), itemsV[i]? = some v → w.cell? ⟨b, i + o, none⟩ = some v) :
    Calls Tryz.prog 20 #[.slice (some ⟨b, o, none⟩) 3 c, .int .i64 5] w fun e w' => e = .returned (.int .i64 0) ∧ Below w.heap.size w w' :=
  row2_call prog_names prog_mixed sumT_ok ((callF_eq ..).symm.trans itemsR_run) rfl rfl hn hb hc
end Go.Proofs
end

section
/- A map from names to numbers. -/
namespace Go.Proofs
open Go.RowKit Go.MapKept
set_option maxHeartbeats 4000000
set_option maxRecDepth 1000000
/-- Block b is a map with just these entries, in their order. -/
def SMap (w : World) (b : Nat) (l : List (ByteArray × Int)) : Prop := ∃ es clock, w.heap[b]? = some (.map es clock) ∧ es.toList.map (fun e => (e.key, e.val)) = l.map (fun p => (Value.string p.1, Value.int .i64 p.2)) ∧ (∀ e ∈ es.toList, e.born < clock) ∧ (es.toList.map (·.born)).Nodup
def getS (s : ByteArray) : List (ByteArray × Int) → Option Int
  | [] => none
  | p :: l => if s = p.1 then some p.2 else getS s l
def putS (s : ByteArray) (v : Int) : List (ByteArray × Int) → List (ByteArray × Int)
  | [] => [(s, v)]
  | p :: l => if s = p.1 then (s, v) :: l else p :: putS s v l
theorem find_smap (s : ByteArray) : ∀ (es : List MapEntry) (l : List (ByteArray × Int)) (i : Nat), es.map (fun e => (e.key, e.val)) = l.map (fun p => (Value.string p.1, Value.int .i64 p.2)) →
    (getS s l = none ∧ Instr.findNow .string (.string s) es i = some none ∧ ∀ v, putS s v l = l ++ [(s, v)]) ∨
    ∃ j v, getS s l = some v ∧ Instr.findNow .string (.string s) es i = some (some (i + j, .int .i64 v)) ∧ (∃ e, es[j]? = some e ∧ e.key = .string s) ∧ ∀ u, putS s u l = l.set j (s, u)
  | [], [], i, _ => .inl ⟨rfl, rfl, fun v => rfl⟩
  | e :: es, p :: l, i, h => by
    simp only [List.map_cons, List.cons.injEq, Prod.mk.injEq] at h
    obtain ⟨⟨h1, h2⟩, h3⟩ := h
    by_cases hc : s = p.1
    · right
      refine ⟨0, p.2, by simp [getS, hc], ?_, ⟨e, rfl, by rw [h1, hc]⟩, fun u => by simp [putS, hc]⟩
      have hb : (s == s) = true := by rw [beq_toListBytes]; exact beq_self_eq_true _
      rw [← hc] at h1
      simp [Instr.findNow, Instr.sameNow, h1, h2, hb]
    · have hb : (s == p.1) = false := by rw [beq_toListBytes]; exact bytes_ne hc
      rcases find_smap s es l (i + 1) h3 with ⟨g1, g2, g3⟩ | ⟨j, v, g1, g2, g3, g4⟩
      · left
        refine ⟨by simp [getS, hc, g1], ?_, fun v => by simp [putS, hc, g3]⟩
        simp [Instr.findNow, Instr.sameNow, h1, hb, g2]
      · right
        refine ⟨j + 1, v, by simp [getS, hc, g1], ?_, by simpa using g3, fun u => by simp [putS, hc, g4]⟩
        simp [Instr.findNow, Instr.sameNow, h1, hb, g2, Nat.add_assoc, Nat.add_comm 1 j]
  | [], _ :: _, _, h => by simp at h
  | _ :: _, [], _, h => by simp at h
theorem lookup_smap {w : World} {b : Nat} {l : List (ByteArray × Int)} (h : SMap w b l) (s : ByteArray) :
    (Instr.lookup 115 (.map (some b)) (.string s) false).run Tryz.prog w = .ok (.int .i64 ((getS s l).getD 0)) w := by
  obtain ⟨es, clock, hb, hm, _⟩ := h
  rcases find_smap s es.toList l 0 hm with ⟨g1, g2, _⟩ | ⟨j, v, g1, g2, _⟩
  · have hf : (Instr.findKey 9 (.string s) es.toList).run Tryz.prog w = .ok none w := run_findKey Tryz.underlying9 g2
    have hz : (zeroValue 3).run Tryz.prog w = .ok (.int .i64 0) w := by go_simp
    simp [Instr.lookup, run_underlying Tryz.underlying115, MapKept.run_getObj_map hb, check_str, hf, hz, g1, Result.andThen]
  · have hf : (Instr.findKey 9 (.string s) es.toList).run Tryz.prog w = .ok (some (0 + j, .int .i64 v)) w := run_findKey Tryz.underlying9 g2
    simp [Instr.lookup, run_underlying Tryz.underlying115, MapKept.run_getObj_map hb, check_str, hf, g1, Result.andThen]
theorem same_str (s : ByteArray) : Instr.sameBits 10000 (.string s) (.string s) = true := by
  change Instr.sameBits (9999 + 1) _ _ = _
  simp only [Instr.sameBits]
  rw [beq_toListBytes]
  exact beq_self_eq_true _
theorem update_smap {w : World} {b : Nat} {l : List (ByteArray × Int)} (h : SMap w b l) (s : ByteArray) (v : Int) :
    ∃ w', (Instr.mapUpdate 115 (.map (some b)) (.string s) (.int .i64 v)).run Tryz.prog w = .ok () w' ∧ SMap w' b (putS s v l) ∧ w.grownBy w' (some b) := by
  obtain ⟨es, clock, hb, hm, hborn, hnd⟩ := h
  rcases find_smap s es.toList l 0 hm with ⟨g1, g2, g3⟩ | ⟨j, u, g1, g2, ⟨e0, g3, g4⟩, g5⟩
  · have hf : (Instr.findKey 9 (.string s) es.toList).run Tryz.prog w = .ok none w := run_findKey Tryz.underlying9 g2
    refine ⟨_, by simp [Instr.mapUpdate, run_underlying Tryz.underlying115, MapKept.run_getObj_map hb, check_str, hf, Result.andThen, MapKept.run_setObj_map _ hb]; rfl, ?_, ?_⟩
    · refine ⟨_, _, (heap_set hb).1, ?_, ?_, ?_⟩
      · rw [g3]
        simp [hm]
      · intro e he
        rw [Array.toList_push] at he
        rcases List.mem_append.1 he with he | he
        · exact Nat.lt_succ_of_lt (hborn e he)
        · simp at he
          subst he
          exact Nat.lt_succ_self _
      · rw [Array.toList_push, List.map_append]
        refine List.nodup_append.2 ⟨hnd, by simp, ?_⟩
        rintro x hx y hy rfl
        simp at hy
        subst hy
        obtain ⟨e, he, he'⟩ := List.mem_map.1 hx
        have := hborn e he
        omega
    · exact grown_setBlockN (.inl rfl) b _
  · have hf : (Instr.findKey 9 (.string s) es.toList).run Tryz.prog w = .ok (some (0 + j, .int .i64 u)) w := run_findKey Tryz.underlying9 g2
    have hk : ((es[j]?).map (·.key)).getD (.string s) = .string s := by
      rw [← Array.getElem?_toList, g3]
      simp [g4]
    refine ⟨_, by simp [Instr.mapUpdate, run_underlying Tryz.underlying115, MapKept.run_getObj_map hb, check_str, hf, Result.andThen, Instr.keyThatStays, hk, same_str, MapKept.run_setObj_map _ hb]; rfl, ?_, ?_⟩
    · refine ⟨_, _, (heap_set hb).1, ?_, ?_⟩
      rw [g5]
      have hmod : ∀ (L : List MapEntry) (j : Nat), L[j]? = some e0 → (L.modify j fun e => { e with key := .string s, val := .int .i64 v }).map (fun e => (e.key, e.val)) = (L.map (fun e => (e.key, e.val))).set j (.string s, .int .i64 v) := fun L => by
        induction L with
        | nil => intro j h; simp at h
        | cons x L ih =>
          intro j h
          cases j with
          | zero => simp
          | succ j => simpa using ih j (by simpa using h)
      rw [Array.toList_modify, hmod _ _ g3, hm, List.map_set]
      have hbn : ∀ (L : List MapEntry) (j : Nat), (L.modify j fun e => { e with key := .string s, val := .int .i64 v }).map (·.born) = L.map (·.born) := fun L => by
        induction L with
        | nil => intro j; simp
        | cons x L ih =>
          intro j
          cases j with
          | zero => simp
          | succ j => simpa using ih j
      refine ⟨fun e he => ?_, ?_⟩
      · have h1 : e.born ∈ (es.modify j fun e => { e with key := .string s, val := .int .i64 v }).toList.map (·.born) := List.mem_map.2 ⟨e, he, rfl⟩
        rw [Array.toList_modify, hbn] at h1
        obtain ⟨e', he', h2⟩ := List.mem_map.1 h1
        rw [← h2]
        exact hborn e' he'
      · rw [Array.toList_modify, hbn]
        exact hnd
    · exact grown_setBlockN (.inl rfl) b _
theorem SMap.keep {w w' : World} {b : Nat} {l : List (ByteArray × Int)} (h : SMap w b l) (hb : w'.heap[b]? = w.heap[b]?) : SMap w' b l := by
  obtain ⟨es, clock, h1, h2⟩ := h
  exact ⟨es, clock, hb.trans h1, h2⟩
theorem SMap.lt {w : World} {b : Nat} {l : List (ByteArray × Int)} (h : SMap w b l) : b < w.heap.size := by
  obtain ⟨es, clock, h1, _⟩ := h
  exact (Array.getElem?_eq_some_iff.1 h1).1
theorem SMap.made (w : World) : SMap (w.alloc (.map #[] 0)) w.heap.size [] := ⟨#[], 0, heap_alloc_new w _, rfl, by simp, by simp⟩
end Go.Proofs
end
