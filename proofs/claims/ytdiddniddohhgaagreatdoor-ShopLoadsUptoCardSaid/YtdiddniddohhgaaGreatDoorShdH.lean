import Derived.Test.YtdiddniddohhgaaGreatDoorShdF
import Derived.Laws.RangeString
import Derived.Maps.OwnOps
section
/- Shades: first, allWithin, checkColour, IsName, checkName of the program. -/
namespace Go.Proofs
open Go.RowKit
set_option maxHeartbeats 16000000
set_option maxRecDepth 1000000
def or3 (a b c : Int) : Int := if a ≠ 0 then a else if b ≠ 0 then b else c
theorem shWhen_ok (b : Bool) (n : Int) (w : World) : Calls Tryz.prog 40 #[.bool b, .int .i64 n] w fun e w' => e = .returned (.int .i64 (if b then n else 0)) ∧ w' = w := by
  cases b
  · go_enter Tryz.func40, Tryz.ntmps40
    go_wp2
    go_ret
    exact ⟨rfl, rfl⟩
  · go_enter Tryz.func40, Tryz.ntmps40
    go_wp2
    go_ret
    exact ⟨rfl, rfl⟩
theorem shFirst3 (a b c : Int) (blk cap : Nat) (w : World) (h0 : w.cell? ⟨blk, 0, none⟩ = some (.int .i64 a)) (h1 : w.cell? ⟨blk, 1, none⟩ = some (.int .i64 b)) (h2 : w.cell? ⟨blk, 2, none⟩ = some (.int .i64 c)) :
    Calls Tryz.prog 39 #[.slice (some ⟨blk, 0, none⟩) 3 cap] w fun e w' => e = .returned (.int .i64 (or3 a b c)) ∧ w' = w := by
  go_enter Tryz.func39, Tryz.ntmps39
  go_wp2
  refine wp_loop_rounds 4 ?_
  rw [rounds_succ]
  go_wp2
  all_goals (try (rw [rounds_succ]; go_wp2))
  all_goals (try (rw [rounds_succ]; go_wp2))
  all_goals (try (rw [rounds_succ]; go_wp2))
  all_goals go_ret
  all_goals (refine ⟨?_, rfl⟩; unfold or3; simp_all)
theorem shFirst2 (a b : Int) (blk cap : Nat) (w : World) (h0 : w.cell? ⟨blk, 0, none⟩ = some (.int .i64 a)) (h1 : w.cell? ⟨blk, 1, none⟩ = some (.int .i64 b)) :
    Calls Tryz.prog 39 #[.slice (some ⟨blk, 0, none⟩) 2 cap] w fun e w' => e = .returned (.int .i64 (or3 a b 0)) ∧ w' = w := by
  go_enter Tryz.func39, Tryz.ntmps39
  go_wp2
  refine wp_loop_rounds 3 ?_
  rw [rounds_succ]
  go_wp2
  all_goals (try (rw [rounds_succ]; go_wp2))
  all_goals (try (rw [rounds_succ]; go_wp2))
  all_goals go_ret
  all_goals (refine ⟨?_, rfl⟩; unfold or3; simp_all)
/-- Three numbers within a range. -/
theorem shAll3 (x y z lo hi : Int) (blk cap : Nat) (w : World) (h0 : w.cell? ⟨blk, 0, none⟩ = some (.int .i64 x)) (h1 : w.cell? ⟨blk, 1, none⟩ = some (.int .i64 y)) (h2 : w.cell? ⟨blk, 2, none⟩ = some (.int .i64 z)) (hok : ColOk (x, y, z) lo hi) :
    Calls Tryz.prog 122 #[.slice (some ⟨blk, 0, none⟩) 3 cap, .int .i64 lo, .int .i64 hi] w fun e w' => e = .returned (.int .i64 0) ∧ w' = w := by
  have c1 := fun W => shWithin_ok x lo hi W
  have c2 := fun W => shWithin_ok y lo hi W
  have c3 := fun W => shWithin_ok z lo hi W
  rw [(within_cases x lo hi).2.2.2 hok.1] at c1
  rw [(within_cases y lo hi).2.2.2 hok.2.1] at c2
  rw [(within_cases z lo hi).2.2.2 hok.2.2] at c3
  clear hok
  go_enter Tryz.func122, Tryz.ntmps122
  go_wp2
  refine wp_loop_rounds 4 ?_
  rw [rounds_succ]
  go_wp2_with (go_at_call 47; with_reducible refine (c1 _).mono ?_; rintro e w1 ⟨rfl, rfl⟩)
  rw [rounds_succ]
  go_wp2_with (go_at_call 47; with_reducible refine (c2 _).mono ?_; rintro e w2 ⟨rfl, rfl⟩)
  rw [rounds_succ]
  go_wp2_with (go_at_call 47; with_reducible refine (c3 _).mono ?_; rintro e w3 ⟨rfl, rfl⟩)
  rw [rounds_succ]
  go_wp2
  go_ret
  exact ⟨rfl, rfl⟩
theorem shColour_ok (c : Cel) (w : World) (hok : ColOk c 0 255) : Calls Tryz.prog 88 #[colV c] w fun e w' => e = .returned (.int .i64 0) ∧ Below w.heap.size w w' := by
  obtain ⟨x, y, z⟩ := c
  unfold colV
  dsimp only
  have hB : Below w.heap.size w (w.alloc (.cells #[.int .i64 x, .int .i64 y, .int .i64 z] 78)) := (Below.refl _ _).alloc (Nat.le_refl _) _
  have hc := fun cap => shAll3 x y z 0 255 w.heap.size cap (w.alloc (.cells #[.int .i64 x, .int .i64 y, .int .i64 z] 78)) (by go_simp) (by go_simp) (by go_simp) hok
  go_enter Tryz.func88, Tryz.ntmps88
  go_wp2_with (go_at_call 122; refine (hc _).mono ?_; rintro e w1 ⟨rfl, rfl⟩)
  go_ret
  exact ⟨rfl, hB⟩
theorem dec_cast (a b : Nat) : decide (a ≤ b) = decide ((a : Int) ≤ (b : Int)) := by simp
theorem shLetter_ok (c : Nat) (w : World) : Calls Tryz.prog 129 #[.int .i32 c] w fun e w' => e = .returned (.bool (letterB c)) ∧ w' = w := by
  obtain ⟨r, hr⟩ : ∃ r, r = letterB c := ⟨_, rfl⟩
  rw [← hr]
  unfold letterB at hr
  simp only [dec_cast] at hr
  go_enter Tryz.func129, Tryz.ntmps129
  by_cases h1 : (65 : Int) ≤ c <;> by_cases h2 : (c : Int) ≤ 90 <;> by_cases h3 : (97 : Int) ≤ c <;> by_cases h4 : (c : Int) ≤ 122 <;> (first | (exfalso; omega) | skip)
  all_goals (simp only [Int.cast_ofNat_Int, h1, h2, h3, h4, decide_true, decide_false, Bool.and_true, Bool.and_false, Bool.or_true, Bool.or_false] at hr; subst hr)
  all_goals go_wp2
  all_goals (try (exfalso; omega))
  all_goals go_ret
  all_goals (refine ⟨?_, rfl⟩; simp_all)
theorem dec_castE (a b : Nat) : decide (a = b) = decide ((a : Int) = (b : Int)) := by
  by_cases h : a = b
  · subst h; simp
  · have h2 : ¬ (a : Int) = (b : Int) := by omega
    simp only [h, h2, decide_false]
theorem shFurther_ok (c : Nat) (w : World) : Calls Tryz.prog 130 #[.int .i32 c] w fun e w' => e = .returned (.bool (furtherB c)) ∧ w' = w := by
  obtain ⟨r, hr⟩ : ∃ r, r = furtherB c := ⟨_, rfl⟩
  rw [← hr]
  unfold furtherB at hr
  simp only [dec_cast, dec_castE] at hr
  go_enter Tryz.func130, Tryz.ntmps130
  by_cases h1 : (48 : Int) ≤ c <;> by_cases h2 : (c : Int) ≤ 57 <;> by_cases h3 : (c : Int) = 95 <;> (first | (exfalso; omega) | skip)
  all_goals (simp only [Int.cast_ofNat_Int, h1, h2, h3, decide_true, decide_false, Bool.and_true, Bool.and_false, Bool.or_true, Bool.or_false] at hr; subst hr)
  all_goals go_wp2
  all_goals (try (exfalso; omega))
  all_goals go_ret
  all_goals (refine ⟨?_, rfl⟩; simp_all)
theorem name_nonempty {s : ByteArray} (h : 1 ≤ s.size) : s.toList ≠ [] := by
  intro e
  have h1 := ByteArray.toList_loop_eq s s.size 0 [] (by omega) (Nat.zero_le _)
  have h2 : s.toList = s.data.toList := by
    show ByteArray.toList.loop s 0 [] = _
    rw [h1]
    simp
  have h3 : s.data.toList.length = s.size := by cases s; rfl
  rw [← h2, e] at h3
  simp at h3
  omega
theorem letter_low {c : Nat} (h : letterB c = true ∨ furtherB c = true) : c < 128 := by
  unfold letterB furtherB at h
  simp only [Bool.or_eq_true, Bool.and_eq_true, decide_eq_true_eq] at h
  omega
theorem shName_ok (s : ByteArray) (w : World) (hs : NameOk s) : Calls Tryz.prog 99 #[.string s] w fun e w' => e = .returned (.bool true) ∧ Below w.heap.size w w' := by
  obtain ⟨hs1, hs2, hs3⟩ := hs
  have hs5 : (s.size : Int) ≤ 24 := by omega
  have hs4 := name_nonempty hs1
  have hs6 : s.toList.isEmpty = false := by
    cases h : s.toList with
    | nil => exact absurd h hs4
    | cons _ _ => rfl
  have hB : ∀ k, Below w.heap.size w (w.iter s k) := fun k => (Below.refl _ _).alloc (Nat.le_refl _) _
  go_enter Tryz.func99, Tryz.ntmps99
  go_wp2
  clear hs4 hs6
  go_loopw [] (fun wr => ∃ pos : Nat, pos ≤ s.size ∧ wr = w.iter s pos) (fun wr => s.size - wr.iterPos w.heap.size)
  case atStart => exact ⟨0, Nat.zero_le _, rfl⟩
  case round =>
    obtain ⟨pos, hpos, rfl⟩ := hrel
    rcases Nat.lt_or_eq_of_le hpos with hp | rfl
    · have hlow : (s[pos]'hp).toNat < 128 := letter_low ((hs3 pos hp).imp id (fun h => h.2))
      have hnx : ∀ ty, (Instr.next (.pointer (some ⟨w.heap.size, 0, none⟩)) true ty).run Tryz.prog (w.iter s pos) = _ := fun ty => run_next_ascii w s pos ty hp hlow
      have hl := fun W => shLetter_ok (s[pos]'hp).toNat W
      have hf := fun W => shFurther_ok (s[pos]'hp).toNat W
      have h3 := hs3 pos hp
      generalize (s[pos]'hp).toNat = c at hnx hl hf h3
      generalize letterB c = lb at hl h3
      generalize furtherB c = fb at hf h3
      have hne : pos = 0 ∨ ((pos : Int) == 0) = false := by
        rcases Nat.eq_zero_or_pos pos with h | h
        · exact .inl h
        · exact .inr (by simp; omega)
      cases lb with
      | true =>
        clear h3 hf hne
        go_wp2_with (go_at_call 129; refine (hl _).mono ?_; rintro e w5 ⟨rfl, rfl⟩)
        go_roundw
        case rel => exact ⟨pos + 1, hp, rfl⟩
        case measure => simp; omega
      | false =>
        obtain ⟨h4, rfl⟩ : pos ≠ 0 ∧ fb = true := by
          rcases h3 with h | h
          · cases h
          · exact h
        have hne := hne.resolve_left h4
        clear h3
        go_wp2_with (first | (go_at_call 129; refine (hl _).mono ?_; rintro e w5 ⟨rfl, rfl⟩) | (go_at_call 130; refine (hf _).mono ?_; rintro e w5 ⟨rfl, rfl⟩))
        go_roundw
        case rel => exact ⟨pos + 1, hp, rfl⟩
        case measure => simp; omega
    · have hnx : ∀ ty, (Instr.next (.pointer (some ⟨w.heap.size, 0, none⟩)) true ty).run Tryz.prog (w.iter s s.size) = _ := fun ty => run_next_end w s s.size ty (Nat.lt_irrefl _)
      go_wp2
      go_ret
      exact ⟨rfl, hB _⟩
end Go.Proofs
end

section
/- Shades: the names that were looked at, and CheckGuide of the program for guides without errors. -/
namespace Go.Proofs
open Go.RowKit Go.MapKept
set_option maxHeartbeats 16000000
set_option maxRecDepth 1000000
theorem toList_data (s : ByteArray) : s.toList = s.data.toList := by
  show ByteArray.toList.loop s 0 [] = _
  rw [ByteArray.toList_loop_eq s s.size 0 [] (by omega) (Nat.zero_le _)]
  simp
theorem bytes_ne {a b : ByteArray} (h : a ≠ b) : (a.toList == b.toList) = false := by
  rw [toList_data, toList_data]
  cases hb : (a.data.toList == b.data.toList) with
  | false => rfl
  | true =>
    exfalso
    apply h
    have h2 := Array.toList_inj.1 (eq_of_beq hb)
    cases a
    cases b
    simp only at h2
    rw [h2]
theorem grown_setBlockN {w w2 : World} (hal : w2 = w ∨ w2 = w.drew) (r : Nat) (o : Obj) : w.grownBy (ChangeMaps.setBlock w2 r o) (some r) := by
  rcases hal with rfl | rfl
  · exact ⟨rfl, rfl, rfl, by simp [ChangeMaps.setBlock], fun i _ hi => by
      show (_ : Array Obj)[i]? = _
      exact Array.getElem?_setIfInBounds_ne (fun e : r = i => hi (by rw [e]))⟩
  · exact ⟨rfl, rfl, rfl, by simp [ChangeMaps.setBlock], fun i _ hi => by
      show (_ : Array Obj)[i]? = _
      exact Array.getElem?_setIfInBounds_ne (fun e : r = i => hi (by rw [e]))⟩
/-- A map with just these names. -/
def NMap (w : World) (b : Nat) (l : List ByteArray) : Prop := ∃ es clock, w.heap[b]? = some (.map es clock) ∧ es.toList.map (·.key) = l.map Value.string
theorem NMap.made (w : World) : NMap (w.alloc (.map #[] 0)) w.heap.size [] := ⟨#[], 0, heap_alloc_new w _, rfl⟩
theorem NMap.keep {w w' : World} {b : Nat} {l : List ByteArray} (h : NMap w b l) (hb : w'.heap[b]? = w.heap[b]?) : NMap w' b l := by
  obtain ⟨es, clock, h1, h2⟩ := h
  exact ⟨es, clock, hb.trans h1, h2⟩
theorem NMap.lt {w : World} {b : Nat} {l : List ByteArray} (h : NMap w b l) : b < w.heap.size := by
  obtain ⟨es, clock, h1, h2⟩ := h
  exact (Array.getElem?_eq_some_iff.1 h1).1
theorem find_str (s : ByteArray) : ∀ (es : List MapEntry) (l : List ByteArray) (i : Nat), es.map (·.key) = l.map Value.string → s ∉ l → Instr.findNow .string (.string s) es i = some none
  | [], [], i, _, _ => rfl
  | e :: es, p :: l, i, h, hs => by
    simp only [List.map_cons, List.cons.injEq] at h
    have hne : s ≠ p := fun e => hs (by simp [e])
    have h1 : (s == p) = false := by rw [beq_toListBytes]; exact bytes_ne hne
    have ih := find_str s es l (i + 1) h.2 (fun hm => hs (List.mem_cons_of_mem _ hm))
    simp [Instr.findNow, Instr.sameNow, h.1, h1, ih]
  | [], _ :: _, _, h, _ => by simp at h
  | _ :: _, [], _, h, _ => by simp at h
theorem check_str (s : ByteArray) (em : Bool) (w : World) : (Instr.checkKey em 10000 9 (.string s)).run Tryz.prog w = .ok () w := by
  change (Instr.checkKey em (9999 + 1) _ _).run _ _ = _
  unfold Instr.checkKey
  simp [run_underlying Tryz.underlying9]
theorem lookup_str {w : World} {b : Nat} {l : List ByteArray} (h : NMap w b l) (s : ByteArray) (hs : s ∉ l) :
    (Instr.lookup 109 (.map (some b)) (.string s) false).run Tryz.prog w = .ok (.bool false) w := by
  obtain ⟨es, clock, hb, hm⟩ := h
  have hf : (Instr.findKey 9 (.string s) es.toList).run Tryz.prog w = .ok none w := run_findKey Tryz.underlying9 (find_str s es.toList l 0 hm hs)
  have hz : (zeroValue 4).run Tryz.prog w = .ok (.bool false) w := by go_simp
  simp [Instr.lookup, run_underlying Tryz.underlying109, MapKept.run_getObj_map hb, check_str, hf, hz, Result.andThen]
theorem update_str {w : World} {b : Nat} {l : List ByteArray} (h : NMap w b l) (s : ByteArray) (hs : s ∉ l) :
    ∃ w', (Instr.mapUpdate 109 (.map (some b)) (.string s) (.bool true)).run Tryz.prog w = .ok () w' ∧ NMap w' b (l ++ [s]) ∧ w.grownBy w' (some b) := by
  obtain ⟨es, clock, hb, hm⟩ := h
  have hf : (Instr.findKey 9 (.string s) es.toList).run Tryz.prog w = .ok none w := run_findKey Tryz.underlying9 (find_str s es.toList l 0 hm hs)
  refine ⟨_, by simp [Instr.mapUpdate, run_underlying Tryz.underlying109, MapKept.run_getObj_map hb, check_str, hf, Result.andThen, MapKept.run_setObj_map _ hb]; rfl, ⟨_, _, (heap_set hb).1, ?_⟩, grown_setBlockN (.inl rfl) b _⟩
  simp [hm]
theorem shAdd_ok (b : Nat) (l : List ByteArray) (s : ByteArray) (w : World) (hm : NMap w b l) (hs : s ∉ l) :
    Calls Tryz.prog 49 #[.map (some b), .string s] w fun e w' => e = .returned (.int .i64 0) ∧ NMap w' b (l ++ [s]) ∧ w.grownBy w' (some b) := by
  have hl := lookup_str hm s hs
  obtain ⟨w', hu, hm2, hg⟩ := update_str hm s hs
  go_enter Tryz.func49, Tryz.ntmps49
  go_wp2
  go_ret
  exact ⟨rfl, hm2, hg⟩
theorem shCheckName_ok (s : ByteArray) (w : World) (hs : NameOk s) : Calls Tryz.prog 48 #[.string s] w fun e w' => e = .returned (.int .i64 0) ∧ Below w.heap.size w w' := by
  have h1 := shName_ok s w hs
  have h2 := fun W => shWhen_ok false 8 W
  go_enter Tryz.func48, Tryz.ntmps48
  go_wp2_with (first | (go_at_call 99; refine h1.mono ?_; rintro e w1 ⟨rfl, hB1⟩) | (go_at_call 40; refine (h2 _).mono ?_; rintro e w2 ⟨rfl, rfl⟩))
  go_ret
  exact ⟨rfl, hB1⟩
end Go.Proofs
end
