/- setOf: a set of the cells of a list. -/
import Derived.Test.YtgmcdnabgojaeaaMapC
import Derived.Test.YtgmcdnabgojaeaaOutP
namespace Go.Proofs
open Go.RowKit
set_option maxHeartbeats 8000000
set_option maxRecDepth 1000000
def setL (l : List Cel) : List Cel := l.foldl (fun m c => addC c m) []
theorem fold_addC : ∀ (l m : List Cel), (∀ c, c ∈ l.foldl (fun m c => addC c m) m ↔ c ∈ l ∨ c ∈ m)
  | [], m, c => by simp
  | d :: l, m, c => by
    rw [List.foldl_cons, fold_addC l (addC d m) c, mem_addC, List.mem_cons]
    constructor
    · rintro (h | h | h)
      · exact .inl (.inr h)
      · exact .inl (.inl h)
      · exact .inr h
    · rintro ((h | h) | h)
      · exact .inr (.inl h)
      · exact .inl h
      · exact .inr (.inr h)
theorem mem_setL {l : List Cel} {c : Cel} : c ∈ setL l ↔ c ∈ l := by
  unfold setL
  rw [fold_addC]
  simp
theorem fold_nodup : ∀ (l m : List Cel), m.Nodup → (l.foldl (fun m c => addC c m) m).Nodup
  | [], _, h => h
  | d :: l, m, h => fold_nodup l (addC d m) (nodup_addC h)
theorem nodup_setL (l : List Cel) : (setL l).Nodup := fold_nodup l [] List.nodup_nil
theorem setL_take {l : List Cel} {k : Nat} {c : Cel} (hc : l[k]? = some c) : setL (l.take (k + 1)) = addC c (setL (l.take k)) := by
  unfold setL
  rw [List.take_add_one, hc]
  simp
theorem setL_len (l : List Cel) : (setL l).length ≤ l.length := nodup_len (nodup_setL l) fun _ h => mem_setL.1 h
theorem run_makeMap_some (t : TypeId) (n : Nat) (w : World) (ht : ∃ k e, Try.prog.underlying t = some (.map k e)) : (Instr.makeMap t (some (.int .i64 n))).run Try.prog w = .ok (.map (some w.heap.size)) (w.alloc (.map #[] 0)) := by
  obtain ⟨k, e, ht⟩ := ht
  simp [Instr.makeMap, run_underlying ht, asInt, Result.andThen]
  rfl
theorem setOf_ok (l : List Cel) (v : Value) (w : World) (hl : Sl w v l) (hn : l.length ≤ maxLen) :
    Calls Try.prog 27 #[v] w fun e w' => ∃ b, e = .returned (.map (some b)) ∧ w.heap.size ≤ b ∧ CSet w' b (setL l) ∧ Below w.heap.size w w' := by
  unfold maxLen at hn
  obtain ⟨A, cap, rfl⟩ := hl.form
  have hmk := run_makeMap_some 55 l.length w ⟨_, _, Try.underlying55⟩
  have hmade : CSet (w.alloc (.map #[] 0)) w.heap.size (setL (l.take 0)) := by
    have := CMap.made w
    simpa [setL, CSet] using this
  have hB0 : Below w.heap.size w (w.alloc (.map #[] 0)) := (Below.refl _ _).alloc (Nat.le_refl _) _
  go_enter Try.func27, Try.ntmps27
  go_wp2
  go_loopw [11] (fun i wr => ∃ k : Nat, k ≤ l.length ∧ i = .int .i64 k ∧ CSet wr w.heap.size (setL (l.take k)) ∧ Below w.heap.size w wr) (fun i _ => l.length - (intOf i).toNat)
  case atStart => exact ⟨0, Nat.zero_le _, rfl, hmade, hB0⟩
  case round =>
    obtain ⟨k, hk, rfl, hset, hB⟩ := hrel
    rename World => w1
    rcases Nat.lt_or_eq_of_le hk with hkn | rfl
    · obtain ⟨b, o, x, y, z, rfl, -, hb, hc, r0, r1, r2⟩ := hl.cells hkn
      have hsz := hB.size
      rw [← hB.cell (p := ⟨b, _, none⟩) hb] at r0 r1 r2
      have hset1 := hset.alloc (.cells #[.int .i64 x, .int .i64 y, .int .i64 z] 32)
      have HT := Lib.hid (setL_take hc)
      clear hl hset hmk hmade hB0
      go_wp2_with (at_mapUpdate; refine wpList_update_set rfl _ _ _ _ rfl Try.underlying55 w.heap.size _ rfl hset1 (x, y, z) rfl rfl ?_; intro w2 hset2 hg2)
      refine ⟨⟨k + 1, hkn, rfl, by rw [HT.out]; exact hset2, (hB.alloc hsz _).grown hg2 (by simp; omega) (fun j e => by cases e; exact Nat.le_refl _)⟩, by simp [intOf]; omega⟩
    · rw [List.take_length] at hset
      clear hl hmk hmade hB0
      go_wp2
      go_ret
      exact ⟨_, rfl, Nat.le_refl _, hset, hB⟩
end Go.Proofs
