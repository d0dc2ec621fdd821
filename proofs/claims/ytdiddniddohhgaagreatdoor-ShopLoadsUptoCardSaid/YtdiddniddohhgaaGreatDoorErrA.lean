/- Shades, exactly: numbers within a range, names that were seen, colours. -/
import Derived.Test.YtdiddniddohhgaaGreatDoorErrP
import Derived.Test.YtdiddniddohhgaaGreatDoorShdJ
import Derived.Test.YtdiddniddohhgaaGreatDoorShdP
namespace Go.Proofs
open Go.RowKit Go.MapKept
set_option maxHeartbeats 16000000
set_option maxRecDepth 1000000
theorem withinI_cases2 (n lo hi : Int) : withinI n lo hi = 0 ∨ withinI n lo hi = 3 := by unfold withinI; split <;> simp
open Classical in
noncomputable def allE (l : List Int) (lo hi : Int) : Int := if ∀ x ∈ l, lo ≤ x ∧ x ≤ hi then 0 else 3
theorem shAllX_ok (l : List Int) (v : Value) (lo hi : Int) (w : World) (hl : SlI w v l) (hn : l.length ≤ 100000) :
    Calls Tryz.prog 122 #[v, .int .i64 lo, .int .i64 hi] w fun e w' => e = .returned (.int .i64 (allE l lo hi)) ∧ w' = w := by
  obtain ⟨A, cap, rfl⟩ := hl.form
  have HA : RowKit.Hid (∀ (k : Nat) (y : Int), l[k]? = some y → withinI y lo hi = 3 → allE l lo hi = 3) := Lib.hid fun k y hy h3 => by
    unfold allE
    rw [if_neg]
    intro h
    have h4 := (within_cases y lo hi).2.2.2 (h y (List.mem_of_getElem? hy))
    omega
  have HD : RowKit.Hid ((∀ (k : Nat) (y : Int), l[k]? = some y → withinI y lo hi = 0) → allE l lo hi = 0) := Lib.hid fun h => by
    unfold allE
    rw [if_pos]
    intro y hy
    obtain ⟨k, hk⟩ := List.mem_iff_getElem?.1 hy
    exact (within_cases y lo hi).2.2.1 (h k y hk)
  generalize allE l lo hi = r at HA HD ⊢
  go_enter Tryz.func122, Tryz.ntmps122
  go_wp2
  go_loopw [12] (fun i wr => ∃ k : Nat, k ≤ l.length ∧ i = .int .i64 k ∧ wr = w ∧ ∀ (j : Nat) (y : Int), j < k → l[j]? = some y → withinI y lo hi = 0) (fun i _ => l.length - (intOf i).toNat)
  case atStart => exact ⟨0, Nat.zero_le _, rfl, rfl, fun j y h _ => absurd h (Nat.not_lt_zero j)⟩
  case round =>
    obtain ⟨k, hk, rfl, rfl, hp⟩ := hrel
    rcases Nat.lt_or_eq_of_le hk with hkn | rfl
    · obtain ⟨b, o, y, rfl, -, hbl, hy, rk⟩ := hl.cells hkn
      have c1 := fun W => shWithin_ok y lo hi W
      have hi0 : (0 : Int) ≤ k := by omega
      have hi1 : (k : Int) < l.length := by omega
      have HK := Lib.hid (show k + 1 ≤ l.length from hkn)
      have HM := Lib.hid (show l.length - (k + 1) < l.length - k by omega)
      have wk1 : wrap64 ((k : Int) + 1) = (k : Int) + 1 := wrap64_small (by omega)
      have wk2 : IntKind.i64.wrap ((k : Int) + 1) = (k : Int) + 1 := wrap_small (by omega)
      have HY := Lib.hid hy
      rcases withinI_cases2 y lo hi with h0 | h3
      · have HP : RowKit.Hid (∀ (j : Nat) (z : Int), j < k + 1 → l[j]? = some z → withinI z lo hi = 0) := Lib.hid fun j z hj hz => by
          rcases Nat.lt_or_eq_of_le (Nat.le_of_lt_succ hj) with h1 | rfl
          · exact hp j z h1 hz
          · obtain rfl := Option.some.inj (hy.symm.trans hz)
            exact h0
        rw [h0] at c1
        clear hl hy hp h0
        go_wp2_with (go_at_call 47; refine (c1 _).mono ?_; rintro e w1 ⟨rfl, rfl⟩)
        go_roundw
        case rel => exact ⟨k + 1, HK.out, by simp, trivial, HP.out⟩
        case measure => exact HM.out
      · have hr : r = 3 := HA.out k y HY.out h3
        subst hr
        rw [h3] at c1
        clear hl hy hp h3
        go_wp2_with (go_at_call 47; refine (c1 _).mono ?_; rintro e w1 ⟨rfl, rfl⟩)
        go_ret
        exact ⟨rfl, rfl⟩
    · have hr : r = 0 := HD.out fun j y hy => hp j y (List.getElem?_eq_some_iff.1 hy).1 hy
      subst hr
      clear hp
      go_wp2
      go_ret
      exact ⟨rfl, rfl⟩
theorem allE3 (x y z lo hi : Int) : allE [x, y, z] lo hi = if sumE (x, y, z) lo hi ≠ 0 then 3 else 0 := by
  unfold allE
  by_cases h : sumE (x, y, z) lo hi = 0
  · have h2 := (sumE_ok _ _ _).1 h
    unfold ColOk at h2
    dsimp only at h2
    have hA : ∀ q ∈ [x, y, z], lo ≤ q ∧ q ≤ hi := fun q hq => by
      simp only [List.mem_cons, List.not_mem_nil, or_false] at hq
      rcases hq with rfl | rfl | rfl <;> omega
    rw [if_pos hA, if_neg (fun h3 => h3 h)]
  · have hA : ¬ ∀ q ∈ [x, y, z], lo ≤ q ∧ q ≤ hi := fun h2 => h ((sumE_ok _ _ _).2 ⟨h2 x (by simp), h2 y (by simp), h2 z (by simp)⟩)
    rw [if_neg hA, if_pos h]
theorem three_at {w : World} {blk cap : Nat} {x y z : Int} (hb : blk < w.heap.size) (h0 : w.cell? ⟨blk, 0, none⟩ = some (.int .i64 x)) (h1 : w.cell? ⟨blk, 1, none⟩ = some (.int .i64 y)) (h2 : w.cell? ⟨blk, 2, none⟩ = some (.int .i64 z)) : SlI w (.slice (some ⟨blk, 0, none⟩) 3 cap) [x, y, z] :=
  SlI.row (l := [x, y, z]) (fun i q hi => by
    match i, hi with
    | 0, hi => obtain rfl : x = q := by simpa using hi
               exact h0
    | 1, hi => obtain rfl : y = q := by simpa using hi
               exact h1
    | 2, hi => obtain rfl : z = q := by simpa using hi
               exact h2
    | n + 3, hi => simp at hi) hb
theorem shAll3X (x y z lo hi : Int) (blk cap : Nat) (w : World) (hb : blk < w.heap.size) (h0 : w.cell? ⟨blk, 0, none⟩ = some (.int .i64 x)) (h1 : w.cell? ⟨blk, 1, none⟩ = some (.int .i64 y)) (h2 : w.cell? ⟨blk, 2, none⟩ = some (.int .i64 z)) :
    Calls Tryz.prog 122 #[.slice (some ⟨blk, 0, none⟩) 3 cap, .int .i64 lo, .int .i64 hi] w fun e w' => e = .returned (.int .i64 (if sumE (x, y, z) lo hi ≠ 0 then 3 else 0)) ∧ w' = w := by
  rw [← allE3]
  exact shAllX_ok [x, y, z] _ lo hi w (three_at hb h0 h1 h2) (by simp)
theorem shColourX_ok (c : Cel) (w : World) : Calls Tryz.prog 88 #[colV c] w fun e w' => e = .returned (.int .i64 (colE c)) ∧ Below w.heap.size w w' := by
  obtain ⟨x, y, z⟩ := c
  unfold colV
  dsimp only
  have hB : Below w.heap.size w (w.alloc (.cells #[.int .i64 x, .int .i64 y, .int .i64 z] 78)) := (Below.refl _ _).alloc (Nat.le_refl _) _
  have hc := fun cap => shAll3X x y z 0 255 w.heap.size cap (w.alloc (.cells #[.int .i64 x, .int .i64 y, .int .i64 z] 78)) (by simp) (by go_simp) (by go_simp) (by go_simp)
  change ∀ cap, Calls _ _ _ _ (fun e w' => e = .returned (.int .i64 (colE (x, y, z))) ∧ _) at hc
  generalize colE (x, y, z) = r at hc ⊢
  go_enter Tryz.func88, Tryz.ntmps88
  go_wp2_with (go_at_call 122; refine (hc _).mono ?_; rintro e w1 ⟨rfl, rfl⟩)
  go_ret
  exact ⟨rfl, hB⟩
/-- A map with just these names, each with the value true. -/
def NMX (w : World) (b : Nat) (l : List ByteArray) : Prop := ∃ es clock, w.heap[b]? = some (.map es clock) ∧ es.toList.map (·.key) = l.map Value.string ∧ ∀ e ∈ es.toList, e.val = .bool true
theorem NMX.made (w : World) : NMX (w.alloc (.map #[] 0)) w.heap.size [] := ⟨#[], 0, heap_alloc_new w _, rfl, fun e h => by simp at h⟩
theorem NMX.keep {w w' : World} {b : Nat} {l : List ByteArray} (h : NMX w b l) (hb : w'.heap[b]? = w.heap[b]?) : NMX w' b l := by
  obtain ⟨es, clock, h1, h2⟩ := h
  exact ⟨es, clock, hb.trans h1, h2⟩
theorem NMX.lt {w : World} {b : Nat} {l : List ByteArray} (h : NMX w b l) : b < w.heap.size := by
  obtain ⟨es, clock, h1, h2⟩ := h
  exact (Array.getElem?_eq_some_iff.1 h1).1
theorem NMX.old {w : World} {b : Nat} {l : List ByteArray} (h : NMX w b l) : NMap w b l := by
  obtain ⟨es, clock, h1, h2, -⟩ := h
  exact ⟨es, clock, h1, h2⟩
theorem find_strY (s : ByteArray) : ∀ (es : List MapEntry) (l : List ByteArray) (i : Nat), es.map (·.key) = l.map Value.string → s ∈ l → ∃ j e, Instr.findNow .string (.string s) es i = some (some (j, e.val)) ∧ e ∈ es
  | [], [], i, _, hs => by simp at hs
  | e :: es, p :: l, i, h, hs => by
    simp only [List.map_cons, List.cons.injEq] at h
    by_cases hsp : s = p
    · subst hsp
      have h1 : (s == s) = true := by rw [beq_toListBytes]; simp
      exact ⟨i, e, by simp [Instr.findNow, Instr.sameNow, h.1, h1], List.mem_cons_self ..⟩
    · have h1 : (s == p) = false := by rw [beq_toListBytes]; exact bytes_ne hsp
      obtain ⟨j, e', h2, h3⟩ := find_strY s es l (i + 1) h.2 (by simpa [hsp] using hs)
      exact ⟨j, e', by simp [Instr.findNow, Instr.sameNow, h.1, h1, h2], List.mem_cons_of_mem _ h3⟩
  | [], _ :: _, _, h, _ => by simp at h
  | _ :: _, [], _, h, _ => by simp at h
theorem lookup_strY {w : World} {b : Nat} {l : List ByteArray} (h : NMX w b l) (s : ByteArray) (hs : s ∈ l) :
    (Instr.lookup 109 (.map (some b)) (.string s) false).run Tryz.prog w = .ok (.bool true) w := by
  obtain ⟨es, clock, hb, hm, ht⟩ := h
  obtain ⟨j, e, hj, hjl⟩ := find_strY s es.toList l 0 hm hs
  have hf : (Instr.findKey 9 (.string s) es.toList).run Tryz.prog w = .ok (some (j, e.val)) w := run_findKey Tryz.underlying9 hj
  have hv := ht e hjl
  simp [Instr.lookup, run_underlying Tryz.underlying109, MapKept.run_getObj_map hb, check_str, hf, Result.andThen, hv]
theorem update_strX {w : World} {b : Nat} {l : List ByteArray} (h : NMX w b l) (s : ByteArray) (hs : s ∉ l) :
    ∃ w', (Instr.mapUpdate 109 (.map (some b)) (.string s) (.bool true)).run Tryz.prog w = .ok () w' ∧ NMX w' b (l ++ [s]) ∧ w.grownBy w' (some b) := by
  obtain ⟨es, clock, hb, hm, ht⟩ := h
  have hf : (Instr.findKey 9 (.string s) es.toList).run Tryz.prog w = .ok none w := run_findKey Tryz.underlying9 (find_str s es.toList l 0 hm hs)
  refine ⟨_, by simp [Instr.mapUpdate, run_underlying Tryz.underlying109, MapKept.run_getObj_map hb, check_str, hf, Result.andThen, MapKept.run_setObj_map _ hb]; rfl, ⟨_, _, (heap_set hb).1, ?_, ?_⟩, grown_setBlockN (.inl rfl) b _⟩
  · simp [hm]
  · intro e he
    rw [Array.toList_push] at he
    rcases List.mem_append.1 he with h1 | h1
    · exact ht e h1
    · obtain rfl := List.mem_singleton.1 h1
      rfl
theorem shAddX_ok (b : Nat) (l : List ByteArray) (s : ByteArray) (w : World) (hm : NMX w b l) :
    Calls Tryz.prog 49 #[.map (some b), .string s] w fun e w' => e = .returned (.int .i64 (twiceE s l)) ∧ w.grownBy w' (some b) ∧ (∃ l', NMX w' b l' ∧ (twiceE s l = 0 → l' = l ++ [s])) := by
  by_cases hs : s ∈ l
  · rw [twiceE_yes hs]
    have hl := lookup_strY hm s hs
    have hg : w.grownBy w (some b) := ⟨rfl, rfl, rfl, Nat.le_refl _, fun _ _ _ => rfl⟩
    go_enter Tryz.func49, Tryz.ntmps49
    go_wp2
    go_ret
    exact ⟨rfl, hg, l, hm, fun h => absurd h (by decide)⟩
  · rw [twiceE_no hs]
    have hl := lookup_str hm.old s hs
    obtain ⟨w', hu, hm2, hg⟩ := update_strX hm s hs
    go_enter Tryz.func49, Tryz.ntmps49
    go_wp2
    go_ret
    exact ⟨rfl, hg, _, hm2, fun _ => rfl⟩
end Go.Proofs
