import Derived.Test.YtpjmobpmpghpeaaGreatDoorNamX
import Derived.Maps.OwnOps
section
/- Shades, exactly: the first error of a guide; no world. -/
namespace Go.Proofs
open Go.RowKit
set_option maxHeartbeats 4000000
set_option maxRecDepth 1000000
def orL : List Int → Int
  | [] => 0
  | e :: l => if e ≠ 0 then e else orL l
theorem or3_orL (a b c : Int) : or3 a b c = orL [a, b, c] := by
  unfold or3 orL orL orL orL
  split <;> (try rfl)
  split <;> (try rfl)
  split <;> simp_all
theorem orL_eq0 : ∀ {l : List Int}, orL l = 0 ↔ ∀ e ∈ l, e = 0
  | [] => by simp [orL]
  | e :: l => by
    unfold orL
    by_cases h : e = 0
    · subst h
      simp [orL_eq0 (l := l)]
    · simp [h]
theorem orL_mem : ∀ {l : List Int}, orL l = 0 ∨ orL l ∈ l
  | [] => .inl rfl
  | e :: l => by
    unfold orL
    by_cases h : e = 0
    · subst h
      simp only [ne_eq, not_true, if_false]
      exact (orL_mem (l := l)).imp id (fun h => List.mem_cons_of_mem _ h)
    · simp [h]
/-- The first error of the elements of a list. -/
def ScanE {α : Type} (l : List α) (E : Nat → α → Int) (e : Int) : Prop := (e = 0 ∧ ∀ k t, l[k]? = some t → E k t = 0) ∨ (e ≠ 0 ∧ ∃ k t, l[k]? = some t ∧ E k t = e ∧ ∀ j s, j < k → l[j]? = some s → E j s = 0)
theorem ScanE.same {α : Type} {l : List α} {E : Nat → α → Int} {e e' : Int} (h : ScanE l E e) (h' : ScanE l E e') : e = e' := by
  rcases h with ⟨rfl, h⟩ | ⟨he, k, t, hk, rfl, h⟩ <;> rcases h' with ⟨rfl, h'⟩ | ⟨he', k', t', hk', rfl, h'⟩
  · rfl
  · exact absurd (h _ _ hk') he'
  · exact absurd (h' _ _ hk) he
  · rcases Nat.lt_trichotomy k k' with h1 | rfl | h1
    · exact absurd (h' _ _ h1 hk) he
    · obtain rfl := Option.some.inj (hk.symm.trans hk')
      rfl
    · exact absurd (h _ _ h1 hk') he'
/-- So many elements have no error. -/
def PreE {α : Type} (l : List α) (E : Nat → α → Int) (k : Nat) : Prop := ∀ j s, j < k → l[j]? = some s → E j s = 0
theorem PreE.zero {α : Type} (l : List α) (E : Nat → α → Int) : PreE l E 0 := fun j _ h => absurd h (Nat.not_lt_zero j)
theorem PreE.step {α : Type} {l : List α} {E : Nat → α → Int} {k : Nat} {t : α} (h : PreE l E k) (hk : l[k]? = some t) (he : E k t = 0) : PreE l E (k + 1) := fun j s hj hs => by
  rcases Nat.lt_or_eq_of_le (Nat.le_of_lt_succ hj) with h1 | rfl
  · exact h j s h1 hs
  · obtain rfl := Option.some.inj (hk.symm.trans hs)
    exact he
theorem PreE.bad {α : Type} {l : List α} {E : Nat → α → Int} {k : Nat} {t : α} (h : PreE l E k) (hk : l[k]? = some t) (he : E k t ≠ 0) : ScanE l E (E k t) := .inr ⟨he, k, t, hk, rfl, h⟩
theorem PreE.done {α : Type} {l : List α} {E : Nat → α → Int} {k : Nat} (h : PreE l E k) (hk : l.length ≤ k) : ScanE l E 0 := .inl ⟨rfl, fun j s hs => h j s (Nat.lt_of_lt_of_le (List.getElem?_eq_some_iff.1 hs).1 hk) hs⟩
open Classical in
noncomputable def twiceE (s : ByteArray) (l : List ByteArray) : Int := if s ∈ l then 9 else 0
noncomputable def nameE (s : ByteArray) : Int := if nameB s then 0 else 8
theorem twiceE_yes {s : ByteArray} {l : List ByteArray} (h : s ∈ l) : twiceE s l = 9 := by unfold twiceE; rw [if_pos h]
theorem twiceE_no {s : ByteArray} {l : List ByteArray} (h : s ∉ l) : twiceE s l = 0 := by unfold twiceE; rw [if_neg h]
theorem twiceE_iff {s : ByteArray} {l : List ByteArray} : twiceE s l = 0 ↔ s ∉ l := by
  unfold twiceE
  split
  · rename_i h; simp [h]
  · rename_i h; simp [h]
theorem nameE_iff {s : ByteArray} : nameE s = 0 ↔ NameOk s := by
  unfold nameE
  rw [← nameB_ok]
  cases nameB s <;> simp
theorem nameE_or (s : ByteArray) : nameE s = 0 ∨ nameE s = 8 := by unfold nameE; cases nameB s <;> simp
theorem twiceE_or (s : ByteArray) (l : List ByteArray) : twiceE s l = 0 ∨ twiceE s l = 9 := by unfold twiceE; split <;> simp
theorem colE_or (c : Cel) : colE c = 0 ∨ colE c = 3 := by unfold colE; split <;> simp
theorem colE_iff {c : Cel} : colE c = 0 ↔ ColOk c 0 255 := by
  unfold colE
  rw [← sumE_ok]
  split <;> simp_all
noncomputable def tabE (l : List TabT) (k : Nat) (t : TabT) : Int := orL [nameE t.1, twiceE t.1 ((l.take k).map (·.1)), colE t.2]
theorem tabE_cases (l : List TabT) (k : Nat) (t : TabT) : (nameE t.1 = 8 ∧ tabE l k t = 8) ∨ (nameE t.1 = 0 ∧ ((twiceE t.1 ((l.take k).map (·.1)) = 9 ∧ tabE l k t = 9) ∨ (twiceE t.1 ((l.take k).map (·.1)) = 0 ∧ tabE l k t = colE t.2))) := by
  unfold tabE
  rcases nameE_or t.1 with h | h <;> rcases twiceE_or t.1 ((l.take k).map (·.1)) with h2 | h2 <;> rcases colE_or t.2 with h3 | h3 <;> rw [h, h2, h3] <;> simp [orL]
theorem tabE_rng (l : List TabT) (k : Nat) (t : TabT) : 0 ≤ tabE l k t ∧ tabE l k t ≤ 9 := by
  have h := tabE_cases l k t
  have h3 := colE_or t.2
  omega
theorem mem_take {l : List TabT} {k : Nat} {s : ByteArray} : s ∈ (l.take k).map (·.1) ↔ ∃ (j : Nat) (u : TabT), j < k ∧ l[j]? = some u ∧ u.1 = s := by
  constructor
  · intro h
    obtain ⟨t, ht, e⟩ := List.mem_map.1 h
    obtain ⟨j, hj⟩ := List.mem_iff_getElem?.1 ht
    rw [List.getElem?_take] at hj
    split at hj
    · rename_i hjk
      exact ⟨j, t, hjk, hj, e⟩
    · cases hj
  · rintro ⟨j, u, hj, hu, rfl⟩
    refine List.mem_map.2 ⟨u, List.mem_iff_getElem?.2 ⟨j, ?_⟩, rfl⟩
    rw [List.getElem?_take, if_pos hj]
    exact hu
def GuideX (ws : Cel) (l : List TabT) (e : Int) : Prop := (sumE ws 1 100 ≠ 0 ∧ e = 3) ∨ (sumE ws 1 100 = 0 ∧ ((l.length = 0 ∧ e = 12) ∨ (0 < l.length ∧ ((32 < l.length ∧ e = 5) ∨ (l.length ≤ 32 ∧ ScanE l (tabE l) e)))))
theorem GuideX.same {ws : Cel} {l : List TabT} {e e' : Int} (h : GuideX ws l e) (h' : GuideX ws l e') : e = e' := by
  rcases h with ⟨h1, rfl⟩ | ⟨h1, ⟨h2, rfl⟩ | ⟨h2, ⟨h3, rfl⟩ | ⟨h3, h4⟩⟩⟩ <;> rcases h' with ⟨g1, rfl⟩ | ⟨g1, ⟨g2, rfl⟩ | ⟨g2, ⟨g3, rfl⟩ | ⟨g3, g4⟩⟩⟩ <;> first | rfl | exact h4.same g4 | (exfalso; omega)
theorem ScanE.rng {l : List TabT} {e : Int} (h : ScanE l (tabE l) e) : 0 ≤ e ∧ e ≤ 9 := by
  rcases h with ⟨rfl, h⟩ | ⟨he, k, t, hk, rfl, h⟩
  · exact ⟨by omega, by omega⟩
  · exact tabE_rng l k t
theorem GuideX.rng {ws : Cel} {l : List TabT} {e : Int} (h : GuideX ws l e) : 0 ≤ e ∧ e ≤ 12 := by
  rcases h with ⟨h1, rfl⟩ | ⟨h1, ⟨h2, rfl⟩ | ⟨h2, ⟨h3, rfl⟩ | ⟨h3, h4⟩⟩⟩ <;> first | (have := h4.rng; omega) | omega
theorem GuideX.ok {ws : Cel} {l : List TabT} (h : GuideX ws l 0) : GuideOk ws l := by
  rcases h with ⟨h1, e⟩ | ⟨h1, ⟨h2, e⟩ | ⟨h2, ⟨h3, e⟩ | ⟨h3, h4⟩⟩⟩
  · cases e
  · cases e
  · cases e
  · have h5 : ∀ (k : Nat) (t : TabT), l[k]? = some t → tabE l k t = 0 := by
      rcases h4 with ⟨-, h4⟩ | ⟨h4, -⟩
      · exact h4
      · exact absurd rfl h4
    have h6 := fun k t h => orL_eq0.1 (h5 k t h)
    refine ⟨(sumE_ok _ _ _).1 h1, h2, h3, fun i t ht => ⟨nameE_iff.1 (h6 i t ht (nameE t.1) (by simp)), colE_iff.1 (h6 i t ht (colE t.2) (by simp))⟩, fun i j s t hji hs ht he => ?_⟩
    have := twiceE_iff.1 (h6 i t ht (twiceE t.1 ((l.take i).map (·.1))) (List.mem_cons_of_mem _ (List.mem_cons_self ..)))
    exact this (mem_take.2 ⟨j, s, hji, hs, he⟩)
end Go.Proofs
end

section
/- Shades: the names that were looked at, and CheckGuide of the program for guides without errors. -/
namespace Go.Proofs
open Go.RowKit Go.MapKept
set_option maxHeartbeats 16000000
set_option maxRecDepth 1000000
theorem toList_data (s : ByteArray) : s.toList = s.data.toList := by
  show ByteArray.toList.loop s 0 [] = _
  rw [ByteArray.toList_loop_eq s s.size 0 [] (by omega) (Nat.zero_le _)]
  simp
theorem bytes_ne {a b : ByteArray} (h : a ≠ b) : (a.toList == b.toList) = false := by
  rw [toList_data, toList_data]
  cases hb : (a.data.toList == b.data.toList) with
  | false => rfl
  | true =>
    exfalso
    apply h
    have h2 := Array.toList_inj.1 (eq_of_beq hb)
    cases a
    cases b
    simp only at h2
    rw [h2]
theorem grown_setBlockN {w w2 : World} (hal : w2 = w ∨ w2 = w.drew) (r : Nat) (o : Obj) : w.grownBy (ChangeMaps.setBlock w2 r o) (some r) := by
  rcases hal with rfl | rfl
  · exact ⟨rfl, rfl, rfl, by simp [ChangeMaps.setBlock], fun i _ hi => by
      show (_ : Array Obj)[i]? = _
      exact Array.getElem?_setIfInBounds_ne (fun e : r = i => hi (by rw [e]))⟩
  · exact ⟨rfl, rfl, rfl, by simp [ChangeMaps.setBlock], fun i _ hi => by
      show (_ : Array Obj)[i]? = _
      exact Array.getElem?_setIfInBounds_ne (fun e : r = i => hi (by rw [e]))⟩
/-- A map with just these names. -/
def NMap (w : World) (b : Nat) (l : List ByteArray) : Prop := ∃ es clock, w.heap[b]? = some (.map es clock) ∧ es.toList.map (·.key) = l.map Value.string
theorem NMap.made (w : World) : NMap (w.alloc (.map #[] 0)) w.heap.size [] := ⟨#[], 0, heap_alloc_new w _, rfl⟩
theorem NMap.keep {w w' : World} {b : Nat} {l : List ByteArray} (h : NMap w b l) (hb : w'.heap[b]? = w.heap[b]?) : NMap w' b l := by
  obtain ⟨es, clock, h1, h2⟩ := h
  exact ⟨es, clock, hb.trans h1, h2⟩
theorem NMap.lt {w : World} {b : Nat} {l : List ByteArray} (h : NMap w b l) : b < w.heap.size := by
  obtain ⟨es, clock, h1, h2⟩ := h
  exact (Array.getElem?_eq_some_iff.1 h1).1
theorem find_str (s : ByteArray) : ∀ (es : List MapEntry) (l : List ByteArray) (i : Nat), es.map (·.key) = l.map Value.string → s ∉ l → Instr.findNow .string (.string s) es i = some none
  | [], [], i, _, _ => rfl
  | e :: es, p :: l, i, h, hs => by
    simp only [List.map_cons, List.cons.injEq] at h
    have hne : s ≠ p := fun e => hs (by simp [e])
    have h1 : (s == p) = false := by rw [beq_toListBytes]; exact bytes_ne hne
    have ih := find_str s es l (i + 1) h.2 (fun hm => hs (List.mem_cons_of_mem _ hm))
    simp [Instr.findNow, Instr.sameNow, h.1, h1, ih]
  | [], _ :: _, _, h, _ => by simp at h
  | _ :: _, [], _, h, _ => by simp at h
theorem check_str (s : ByteArray) (em : Bool) (w : World) : (Instr.checkKey em 10000 9 (.string s)).run Tryz.prog w = .ok () w := by
  change (Instr.checkKey em (9999 + 1) _ _).run _ _ = _
  unfold Instr.checkKey
  simp [run_underlying Tryz.underlying9]
theorem lookup_str {w : World} {b : Nat} {l : List ByteArray} (h : NMap w b l) (s : ByteArray) (hs : s ∉ l) :
    (Instr.lookup 117 (.map (some b)) (.string s) false).run Tryz.prog w = .ok (.bool false) w := by
  obtain ⟨es, clock, hb, hm⟩ := h
  have hf : (Instr.findKey 9 (.string s) es.toList).run Tryz.prog w = .ok none w := run_findKey Tryz.underlying9 (find_str s es.toList l 0 hm hs)
  have hz : (zeroValue 4).run Tryz.prog w = .ok (.bool false) w := by go_simp
  simp [Instr.lookup, run_underlying Tryz.underlying117, MapKept.run_getObj_map hb, check_str, hf, hz, Result.andThen]
theorem update_str {w : World} {b : Nat} {l : List ByteArray} (h : NMap w b l) (s : ByteArray) (hs : s ∉ l) :
    ∃ w', (Instr.mapUpdate 117 (.map (some b)) (.string s) (.bool true)).run Tryz.prog w = .ok () w' ∧ NMap w' b (l ++ [s]) ∧ w.grownBy w' (some b) := by
  obtain ⟨es, clock, hb, hm⟩ := h
  have hf : (Instr.findKey 9 (.string s) es.toList).run Tryz.prog w = .ok none w := run_findKey Tryz.underlying9 (find_str s es.toList l 0 hm hs)
  refine ⟨_, by simp [Instr.mapUpdate, run_underlying Tryz.underlying117, MapKept.run_getObj_map hb, check_str, hf, Result.andThen, MapKept.run_setObj_map _ hb]; rfl, ⟨_, _, (heap_set hb).1, ?_⟩, grown_setBlockN (.inl rfl) b _⟩
  simp [hm]
theorem shAdd_ok (b : Nat) (l : List ByteArray) (s : ByteArray) (w : World) (hm : NMap w b l) (hs : s ∉ l) :
    Calls Tryz.prog 54 #[.map (some b), .string s] w fun e w' => e = .returned (.int .i64 0) ∧ NMap w' b (l ++ [s]) ∧ w.grownBy w' (some b) := by
  have hl := lookup_str hm s hs
  obtain ⟨w', hu, hm2, hg⟩ := update_str hm s hs
  go_enter Tryz.func54, Tryz.ntmps54
  go_wp2
  go_ret
  exact ⟨rfl, hm2, hg⟩
theorem shCheckName_ok (s : ByteArray) (w : World) (hs : NameOk s) : Calls Tryz.prog 50 #[.string s] w fun e w' => e = .returned (.int .i64 0) ∧ Below w.heap.size w w' := by
  have h1 := shName_ok s w hs
  have h2 := fun W => shWhen_ok false 8 W
  go_enter Tryz.func50, Tryz.ntmps50
  go_wp2_with (first | (go_at_call 104; refine h1.mono ?_; rintro e w1 ⟨rfl, hB1⟩) | (go_at_call 60; refine (h2 _).mono ?_; rintro e w2 ⟨rfl, rfl⟩))
  go_ret
  exact ⟨rfl, hB1⟩
end Go.Proofs
end
