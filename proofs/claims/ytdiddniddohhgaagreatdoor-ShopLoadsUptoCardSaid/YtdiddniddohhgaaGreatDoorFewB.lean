/- A map from names to numbers. -/
import Derived.Test.YtdiddniddohhgaaGreatDoorShdH
import Derived.Maps.OwnOps
namespace Go.Proofs
open Go.RowKit Go.MapKept
set_option maxHeartbeats 4000000
set_option maxRecDepth 1000000
/-- Block b is a map with just these entries, in their order. -/
def SMap (w : World) (b : Nat) (l : List (ByteArray × Int)) : Prop := ∃ es clock, w.heap[b]? = some (.map es clock) ∧ es.toList.map (fun e => (e.key, e.val)) = l.map (fun p => (Value.string p.1, Value.int .i64 p.2)) ∧ (∀ e ∈ es.toList, e.born < clock) ∧ (es.toList.map (·.born)).Nodup
def getS (s : ByteArray) : List (ByteArray × Int) → Option Int
  | [] => none
  | p :: l => if s = p.1 then some p.2 else getS s l
def putS (s : ByteArray) (v : Int) : List (ByteArray × Int) → List (ByteArray × Int)
  | [] => [(s, v)]
  | p :: l => if s = p.1 then (s, v) :: l else p :: putS s v l
theorem find_smap (s : ByteArray) : ∀ (es : List MapEntry) (l : List (ByteArray × Int)) (i : Nat), es.map (fun e => (e.key, e.val)) = l.map (fun p => (Value.string p.1, Value.int .i64 p.2)) →
    (getS s l = none ∧ Instr.findNow .string (.string s) es i = some none ∧ ∀ v, putS s v l = l ++ [(s, v)]) ∨
    ∃ j v, getS s l = some v ∧ Instr.findNow .string (.string s) es i = some (some (i + j, .int .i64 v)) ∧ (∃ e, es[j]? = some e ∧ e.key = .string s) ∧ ∀ u, putS s u l = l.set j (s, u)
  | [], [], i, _ => .inl ⟨rfl, rfl, fun v => rfl⟩
  | e :: es, p :: l, i, h => by
    simp only [List.map_cons, List.cons.injEq, Prod.mk.injEq] at h
    obtain ⟨⟨h1, h2⟩, h3⟩ := h
    by_cases hc : s = p.1
    · right
      refine ⟨0, p.2, by simp [getS, hc], ?_, ⟨e, rfl, by rw [h1, hc]⟩, fun u => by simp [putS, hc]⟩
      have hb : (s == s) = true := by rw [beq_toListBytes]; exact beq_self_eq_true _
      rw [← hc] at h1
      simp [Instr.findNow, Instr.sameNow, h1, h2, hb]
    · have hb : (s == p.1) = false := by rw [beq_toListBytes]; exact bytes_ne hc
      rcases find_smap s es l (i + 1) h3 with ⟨g1, g2, g3⟩ | ⟨j, v, g1, g2, g3, g4⟩
      · left
        refine ⟨by simp [getS, hc, g1], ?_, fun v => by simp [putS, hc, g3]⟩
        simp [Instr.findNow, Instr.sameNow, h1, hb, g2]
      · right
        refine ⟨j + 1, v, by simp [getS, hc, g1], ?_, by simpa using g3, fun u => by simp [putS, hc, g4]⟩
        simp [Instr.findNow, Instr.sameNow, h1, hb, g2, Nat.add_assoc, Nat.add_comm 1 j]
  | [], _ :: _, _, h => by simp at h
  | _ :: _, [], _, h => by simp at h
theorem lookup_smap {w : World} {b : Nat} {l : List (ByteArray × Int)} (h : SMap w b l) (s : ByteArray) :
    (Instr.lookup 99 (.map (some b)) (.string s) false).run Tryz.prog w = .ok (.int .i64 ((getS s l).getD 0)) w := by
  obtain ⟨es, clock, hb, hm, _⟩ := h
  rcases find_smap s es.toList l 0 hm with ⟨g1, g2, _⟩ | ⟨j, v, g1, g2, _⟩
  · have hf : (Instr.findKey 9 (.string s) es.toList).run Tryz.prog w = .ok none w := run_findKey Tryz.underlying9 g2
    have hz : (zeroValue 3).run Tryz.prog w = .ok (.int .i64 0) w := by go_simp
    simp [Instr.lookup, run_underlying Tryz.underlying99, MapKept.run_getObj_map hb, check_str, hf, hz, g1, Result.andThen]
  · have hf : (Instr.findKey 9 (.string s) es.toList).run Tryz.prog w = .ok (some (0 + j, .int .i64 v)) w := run_findKey Tryz.underlying9 g2
    simp [Instr.lookup, run_underlying Tryz.underlying99, MapKept.run_getObj_map hb, check_str, hf, g1, Result.andThen]
theorem same_str (s : ByteArray) : Instr.sameBits 10000 (.string s) (.string s) = true := by
  change Instr.sameBits (9999 + 1) _ _ = _
  simp only [Instr.sameBits]
  rw [beq_toListBytes]
  exact beq_self_eq_true _
theorem update_smap {w : World} {b : Nat} {l : List (ByteArray × Int)} (h : SMap w b l) (s : ByteArray) (v : Int) :
    ∃ w', (Instr.mapUpdate 99 (.map (some b)) (.string s) (.int .i64 v)).run Tryz.prog w = .ok () w' ∧ SMap w' b (putS s v l) ∧ w.grownBy w' (some b) := by
  obtain ⟨es, clock, hb, hm, hborn, hnd⟩ := h
  rcases find_smap s es.toList l 0 hm with ⟨g1, g2, g3⟩ | ⟨j, u, g1, g2, ⟨e0, g3, g4⟩, g5⟩
  · have hf : (Instr.findKey 9 (.string s) es.toList).run Tryz.prog w = .ok none w := run_findKey Tryz.underlying9 g2
    refine ⟨_, by simp [Instr.mapUpdate, run_underlying Tryz.underlying99, MapKept.run_getObj_map hb, check_str, hf, Result.andThen, MapKept.run_setObj_map _ hb]; rfl, ?_, ?_⟩
    · refine ⟨_, _, (heap_set hb).1, ?_, ?_, ?_⟩
      · rw [g3]
        simp [hm]
      · intro e he
        rw [Array.toList_push] at he
        rcases List.mem_append.1 he with he | he
        · exact Nat.lt_succ_of_lt (hborn e he)
        · simp at he
          subst he
          exact Nat.lt_succ_self _
      · rw [Array.toList_push, List.map_append]
        refine List.nodup_append.2 ⟨hnd, by simp, ?_⟩
        rintro x hx y hy rfl
        simp at hy
        subst hy
        obtain ⟨e, he, he'⟩ := List.mem_map.1 hx
        have := hborn e he
        omega
    · exact grown_setBlockN (.inl rfl) b _
  · have hf : (Instr.findKey 9 (.string s) es.toList).run Tryz.prog w = .ok (some (0 + j, .int .i64 u)) w := run_findKey Tryz.underlying9 g2
    have hk : ((es[j]?).map (·.key)).getD (.string s) = .string s := by
      rw [← Array.getElem?_toList, g3]
      simp [g4]
    refine ⟨_, by simp [Instr.mapUpdate, run_underlying Tryz.underlying99, MapKept.run_getObj_map hb, check_str, hf, Result.andThen, Instr.keyThatStays, hk, same_str, MapKept.run_setObj_map _ hb]; rfl, ?_, ?_⟩
    · refine ⟨_, _, (heap_set hb).1, ?_, ?_⟩
      rw [g5]
      have hmod : ∀ (L : List MapEntry) (j : Nat), L[j]? = some e0 → (L.modify j fun e => { e with key := .string s, val := .int .i64 v }).map (fun e => (e.key, e.val)) = (L.map (fun e => (e.key, e.val))).set j (.string s, .int .i64 v) := fun L => by
        induction L with
        | nil => intro j h; simp at h
        | cons x L ih =>
          intro j h
          cases j with
          | zero => simp
          | succ j => simpa using ih j (by simpa using h)
      rw [Array.toList_modify, hmod _ _ g3, hm, List.map_set]
      have hbn : ∀ (L : List MapEntry) (j : Nat), (L.modify j fun e => { e with key := .string s, val := .int .i64 v }).map (·.born) = L.map (·.born) := fun L => by
        induction L with
        | nil => intro j; simp
        | cons x L ih =>
          intro j
          cases j with
          | zero => simp
          | succ j => simpa using ih j
      refine ⟨fun e he => ?_, ?_⟩
      · have h1 : e.born ∈ (es.modify j fun e => { e with key := .string s, val := .int .i64 v }).toList.map (·.born) := List.mem_map.2 ⟨e, he, rfl⟩
        rw [Array.toList_modify, hbn] at h1
        obtain ⟨e', he', h2⟩ := List.mem_map.1 h1
        rw [← h2]
        exact hborn e' he'
      · rw [Array.toList_modify, hbn]
        exact hnd
    · exact grown_setBlockN (.inl rfl) b _
theorem SMap.keep {w w' : World} {b : Nat} {l : List (ByteArray × Int)} (h : SMap w b l) (hb : w'.heap[b]? = w.heap[b]?) : SMap w' b l := by
  obtain ⟨es, clock, h1, h2⟩ := h
  exact ⟨es, clock, hb.trans h1, h2⟩
theorem SMap.lt {w : World} {b : Nat} {l : List (ByteArray × Int)} (h : SMap w b l) : b < w.heap.size := by
  obtain ⟨es, clock, h1, _⟩ := h
  exact (Array.getElem?_eq_some_iff.1 h1).1
theorem SMap.made (w : World) : SMap (w.alloc (.map #[] 0)) w.heap.size [] := ⟨#[], 0, heap_alloc_new w _, rfl, by simp, by simp⟩
end Go.Proofs
