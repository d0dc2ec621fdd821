/- Shades: the names that were looked at, and CheckGuide of the program for guides without errors. -/
import Derived.Test.YtpjmobpmpghpeaaGreatDoorShdG
import Derived.Maps.OwnOps
namespace Go.Proofs
open Go.RowKit Go.MapKept
set_option maxHeartbeats 16000000
set_option maxRecDepth 1000000
theorem toList_data (s : ByteArray) : s.toList = s.data.toList := by
  show ByteArray.toList.loop s 0 [] = _
  rw [ByteArray.toList_loop_eq s s.size 0 [] (by omega) (Nat.zero_le _)]
  simp
theorem bytes_ne {a b : ByteArray} (h : a ≠ b) : (a.toList == b.toList) = false := by
  rw [toList_data, toList_data]
  cases hb : (a.data.toList == b.data.toList) with
  | false => rfl
  | true =>
    exfalso
    apply h
    have h2 := Array.toList_inj.1 (eq_of_beq hb)
    cases a
    cases b
    simp only at h2
    rw [h2]
theorem grown_setBlockN {w w2 : World} (hal : w2 = w ∨ w2 = w.drew) (r : Nat) (o : Obj) : w.grownBy (ChangeMaps.setBlock w2 r o) (some r) := by
  rcases hal with rfl | rfl
  · exact ⟨rfl, rfl, rfl, by simp [ChangeMaps.setBlock], fun i _ hi => by
      show (_ : Array Obj)[i]? = _
      exact Array.getElem?_setIfInBounds_ne (fun e : r = i => hi (by rw [e]))⟩
  · exact ⟨rfl, rfl, rfl, by simp [ChangeMaps.setBlock], fun i _ hi => by
      show (_ : Array Obj)[i]? = _
      exact Array.getElem?_setIfInBounds_ne (fun e : r = i => hi (by rw [e]))⟩
/-- A map with just these names. -/
def NMap (w : World) (b : Nat) (l : List ByteArray) : Prop := ∃ es clock, w.heap[b]? = some (.map es clock) ∧ es.toList.map (·.key) = l.map Value.string
theorem NMap.made (w : World) : NMap (w.alloc (.map #[] 0)) w.heap.size [] := ⟨#[], 0, heap_alloc_new w _, rfl⟩
theorem NMap.keep {w w' : World} {b : Nat} {l : List ByteArray} (h : NMap w b l) (hb : w'.heap[b]? = w.heap[b]?) : NMap w' b l := by
  obtain ⟨es, clock, h1, h2⟩ := h
  exact ⟨es, clock, hb.trans h1, h2⟩
theorem NMap.lt {w : World} {b : Nat} {l : List ByteArray} (h : NMap w b l) : b < w.heap.size := by
  obtain ⟨es, clock, h1, h2⟩ := h
  exact (Array.getElem?_eq_some_iff.1 h1).1
theorem find_str (s : ByteArray) : ∀ (es : List MapEntry) (l : List ByteArray) (i : Nat), es.map (·.key) = l.map Value.string → s ∉ l → Instr.findNow .string (.string s) es i = some none
  | [], [], i, _, _ => rfl
  | e :: es, p :: l, i, h, hs => by
    simp only [List.map_cons, List.cons.injEq] at h
    have hne : s ≠ p := fun e => hs (by simp [e])
    have h1 : (s == p) = false := by rw [beq_toListBytes]; exact bytes_ne hne
    have ih := find_str s es l (i + 1) h.2 (fun hm => hs (List.mem_cons_of_mem _ hm))
    simp [Instr.findNow, Instr.sameNow, h.1, h1, ih]
  | [], _ :: _, _, h, _ => by simp at h
  | _ :: _, [], _, h, _ => by simp at h
theorem check_str (s : ByteArray) (em : Bool) (w : World) : (Instr.checkKey em 10000 9 (.string s)).run Tryz.prog w = .ok () w := by
  change (Instr.checkKey em (9999 + 1) _ _).run _ _ = _
  unfold Instr.checkKey
  simp [run_underlying Tryz.underlying9]
theorem lookup_str {w : World} {b : Nat} {l : List ByteArray} (h : NMap w b l) (s : ByteArray) (hs : s ∉ l) :
    (Instr.lookup 117 (.map (some b)) (.string s) false).run Tryz.prog w = .ok (.bool false) w := by
  obtain ⟨es, clock, hb, hm⟩ := h
  have hf : (Instr.findKey 9 (.string s) es.toList).run Tryz.prog w = .ok none w := run_findKey Tryz.underlying9 (find_str s es.toList l 0 hm hs)
  have hz : (zeroValue 4).run Tryz.prog w = .ok (.bool false) w := by go_simp
  simp [Instr.lookup, run_underlying Tryz.underlying117, MapKept.run_getObj_map hb, check_str, hf, hz, Result.andThen]
theorem update_str {w : World} {b : Nat} {l : List ByteArray} (h : NMap w b l) (s : ByteArray) (hs : s ∉ l) :
    ∃ w', (Instr.mapUpdate 117 (.map (some b)) (.string s) (.bool true)).run Tryz.prog w = .ok () w' ∧ NMap w' b (l ++ [s]) ∧ w.grownBy w' (some b) := by
  obtain ⟨es, clock, hb, hm⟩ := h
  have hf : (Instr.findKey 9 (.string s) es.toList).run Tryz.prog w = .ok none w := run_findKey Tryz.underlying9 (find_str s es.toList l 0 hm hs)
  refine ⟨_, by simp [Instr.mapUpdate, run_underlying Tryz.underlying117, MapKept.run_getObj_map hb, check_str, hf, Result.andThen, MapKept.run_setObj_map _ hb]; rfl, ⟨_, _, (heap_set hb).1, ?_⟩, grown_setBlockN (.inl rfl) b _⟩
  simp [hm]
theorem shAdd_ok (b : Nat) (l : List ByteArray) (s : ByteArray) (w : World) (hm : NMap w b l) (hs : s ∉ l) :
    Calls Tryz.prog 54 #[.map (some b), .string s] w fun e w' => e = .returned (.int .i64 0) ∧ NMap w' b (l ++ [s]) ∧ w.grownBy w' (some b) := by
  have hl := lookup_str hm s hs
  obtain ⟨w', hu, hm2, hg⟩ := update_str hm s hs
  go_enter Tryz.func54, Tryz.ntmps54
  go_wp2
  go_ret
  exact ⟨rfl, hm2, hg⟩
theorem shCheckName_ok (s : ByteArray) (w : World) (hs : NameOk s) : Calls Tryz.prog 50 #[.string s] w fun e w' => e = .returned (.int .i64 0) ∧ Below w.heap.size w w' := by
  have h1 := shName_ok s w hs
  have h2 := fun W => shWhen_ok false 8 W
  go_enter Tryz.func50, Tryz.ntmps50
  go_wp2_with (first | (go_at_call 104; refine h1.mono ?_; rintro e w1 ⟨rfl, hB1⟩) | (go_at_call 60; refine (h2 _).mono ?_; rintro e w2 ⟨rfl, rfl⟩))
  go_ret
  exact ⟨rfl, hB1⟩
end Go.Proofs
