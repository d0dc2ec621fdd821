import Derived.Test.YtpickbchpnbffaaGreatMoved
import Derived.Test.YtpickbchpnbffaaGreatSorted
import Derived.Maps.RangeRun
section
namespace Go.Proofs
open Go.RowKit
set_option maxHeartbeats 8000000
set_option maxRecDepth 1000000
/-- What a turn's code takes of a vector. -/
def pickI (x y z : Int) : Nat → Int
  | 0 => x
  | 1 => -x
  | 2 => y
  | 3 => -y
  | 4 => z
  | _ => -z
def outV (a b c : Int) : Nat → Array Value
  | 0 => #[.int .i64 0, .int .i64 0, .int .i64 0]
  | 1 => #[.int .i64 a, .int .i64 0, .int .i64 0]
  | 2 => #[.int .i64 a, .int .i64 b, .int .i64 0]
  | _ => #[.int .i64 a, .int .i64 b, .int .i64 c]
theorem of_ok (a b c : Nat) (ha : a < 6) (hb : b < 6) (hc : c < 6) (x y z : Int) (w : World) (k1 : -9000000 ≤ x ∧ x ≤ 9000000) (k2 : -9000000 ≤ y ∧ y ≤ 9000000) (k3 : -9000000 ≤ z ∧ z ≤ 9000000) :
    Calls Tryz.prog 52 #[.agg #[.int .i64 a, .int .i64 b, .int .i64 c], .agg #[.int .i64 x, .int .i64 y, .int .i64 z]] w fun e w' => e = .returned (.agg #[.int .i64 (pickI x y z a), .int .i64 (pickI x y z b), .int .i64 (pickI x y z c)]) ∧ Below w.heap.size w w' := by
  have w1 : wrap64 (-x) = -x := by unfold wrap64; omega
  have w2 : wrap64 (-y) = -y := by unfold wrap64; omega
  have w3 : wrap64 (-z) = -z := by unfold wrap64; omega
  have i0 : ∀ (u v t : Value) W, (Instr.index 87 (.agg #[u, v, t]) (.int .i64 0)).run Tryz.prog W = .ok u W := fun _ _ _ _ => by kernel_rfl
  have i1 : ∀ (u v t : Value) W, (Instr.index 87 (.agg #[u, v, t]) (.int .i64 1)).run Tryz.prog W = .ok v W := fun _ _ _ _ => by kernel_rfl
  have i2 : ∀ (u v t : Value) W, (Instr.index 87 (.agg #[u, v, t]) (.int .i64 2)).run Tryz.prog W = .ok t W := fun _ _ _ _ => by kernel_rfl
  clear k1 k2 k3
  obtain ⟨T, hT⟩ : ∃ T, T = 86 := ⟨_, rfl⟩
  go_enter Tryz.func52, Tryz.ntmps52
  go_wp2
  go_loopw [9] (fun i wr => ∃ k : Nat, k ≤ 3 ∧ i = .int .i64 k ∧ wr = (((w.alloc (.cells #[.int .i64 a, .int .i64 b, .int .i64 c] 87)).alloc (.cells #[.int .i64 x, .int .i64 y, .int .i64 z] 86)).alloc (.cells #[.int .i64 0, .int .i64 0, .int .i64 0] 86)).alloc (.cells (outV (pickI x y z a) (pickI x y z b) (pickI x y z c) k) 86)) (fun i _ => 3 - (intOf i).toNat)
  case atStart => exact ⟨0, Nat.zero_le _, rfl, rfl⟩
  case round =>
    obtain ⟨k, hk, rfl, rfl⟩ := hrel
    obtain rfl | rfl | rfl | rfl : k = 0 ∨ k = 1 ∨ k = 2 ∨ k = 3 := by omega
    · obtain rfl | rfl | rfl | rfl | rfl | rfl : a = 0 ∨ a = 1 ∨ a = 2 ∨ a = 3 ∨ a = 4 ∨ a = 5 := by omega
      all_goals simp only [outV]
      all_goals simp only [pickI]
      all_goals go_wp2
      all_goals exact ⟨⟨1, by omega, rfl, rfl⟩, by decide⟩
    · obtain rfl | rfl | rfl | rfl | rfl | rfl : b = 0 ∨ b = 1 ∨ b = 2 ∨ b = 3 ∨ b = 4 ∨ b = 5 := by omega
      all_goals simp only [outV]
      all_goals generalize hpa : pickI x y z a = pa
      all_goals simp only [pickI]
      all_goals clear hpa
      all_goals go_wp2
      all_goals exact ⟨⟨2, by omega, rfl, rfl⟩, by decide⟩
    · obtain rfl | rfl | rfl | rfl | rfl | rfl : c = 0 ∨ c = 1 ∨ c = 2 ∨ c = 3 ∨ c = 4 ∨ c = 5 := by omega
      all_goals simp only [outV]
      all_goals generalize pickI x y z a = pa
      all_goals generalize pickI x y z b = pb
      all_goals simp only [pickI]
      all_goals go_wp2
      all_goals exact ⟨⟨3, by omega, rfl, rfl⟩, by decide⟩
    · simp only [outV]
      clear hT
      go_wp2
      (try simp only [Exit.inBlock, Exit.then])
      refine bodyPost_ret (results_cell_row rfl _ _ _ 86 #[.int .i64 (pickI x y z a), .int .i64 (pickI x y z b), .int .i64 (pickI x y z c)] (0, 0) _ rfl ?hg Tryz.underlying86 rfl (by kernel_rfl)) rfl ?_
      case hg =>
        have e : ((w.alloc (.cells #[.int .i64 a, .int .i64 b, .int .i64 c] 87)).alloc (.cells #[.int .i64 x, .int .i64 y, .int .i64 z] 86)).heap.size = w.heap.size + 2 := by simp
        have := heap_alloc2_old ((w.alloc (.cells #[.int .i64 a, .int .i64 b, .int .i64 c] 87)).alloc (.cells #[.int .i64 x, .int .i64 y, .int .i64 z] 86)) (.cells #[.int .i64 (pickI x y z a), .int .i64 (pickI x y z b), .int .i64 (pickI x y z c)] 86) (.cells #[.int .i64 (pickI x y z a), .int .i64 (pickI x y z b), .int .i64 (pickI x y z c)] 86)
        rw [e] at this
        exact this
      exact ⟨rfl, ((((Below.refl _ _).alloc (Nat.le_refl _) _).alloc (by simp) _).alloc (by simp; omega) _).alloc (by simp; omega) _⟩
/-- A cell, turned about another one. -/
def turnC (a b c : Nat) (o p : Cel) : Cel := (o.1 + pickI (p.1 - o.1) (p.2.1 - o.2.1) (p.2.2 - o.2.2) a, o.2.1 + pickI (p.1 - o.1) (p.2.1 - o.2.1) (p.2.2 - o.2.2) b, o.2.2 + pickI (p.1 - o.1) (p.2.1 - o.2.1) (p.2.2 - o.2.2) c)
theorem pickI_le {x y z n : Int} (k1 : -n ≤ x ∧ x ≤ n) (k2 : -n ≤ y ∧ y ≤ n) (k3 : -n ≤ z ∧ z ≤ n) (a : Nat) : -n ≤ pickI x y z a ∧ pickI x y z a ≤ n := by
  unfold pickI
  split <;> omega
end Go.Proofs
end

section
namespace Go.Proofs
open Go.RowKit
set_option maxHeartbeats 8000000
set_option maxRecDepth 1000000
theorem turn1_ok (a b c : Nat) (ha : a < 6) (hb : b < 6) (hc : c < 6) (x y z ox oy oz : Int) (p q : Nat) (w : World)
    (h0 : w.cell? ⟨p, 0, none⟩ = some (.int .i64 a)) (h1 : w.cell? ⟨p, 1, none⟩ = some (.int .i64 b)) (h2 : w.cell? ⟨p, 2, none⟩ = some (.int .i64 c)) (hp : p < w.heap.size)
    (g0 : w.cell? ⟨q, 0, none⟩ = some (.int .i64 ox)) (g1 : w.cell? ⟨q, 1, none⟩ = some (.int .i64 oy)) (g2 : w.cell? ⟨q, 2, none⟩ = some (.int .i64 oz)) (hq : q < w.heap.size)
    (k1 : -1000 ≤ x ∧ x ≤ 1000) (k2 : -1000 ≤ y ∧ y ≤ 1000) (k3 : -1000 ≤ z ∧ z ≤ 1000) (j1 : -1000 ≤ ox ∧ ox ≤ 1000) (j2 : -1000 ≤ oy ∧ oy ≤ 1000) (j3 : -1000 ≤ oz ∧ oz ≤ 1000) :
    Calls Tryz.prog 51 #[.agg #[.int .i64 x, .int .i64 y, .int .i64 z], .pointer (some ⟨p, 0, none⟩), .pointer (some ⟨q, 0, none⟩)] w fun e w' => e = .returned (.agg #[.int .i64 (turnC a b c (ox, oy, oz) (x, y, z)).1, .int .i64 (turnC a b c (ox, oy, oz) (x, y, z)).2.1, .int .i64 (turnC a b c (ox, oy, oz) (x, y, z)).2.2]) ∧ Below w.heap.size w w' := by
  unfold turnC
  dsimp only
  have d1 : IntKind.i64.wrap (x - ox) = x - ox := wrapS (by omega)
  have d2 : IntKind.i64.wrap (y - oy) = y - oy := wrapS (by omega)
  have d3 : IntKind.i64.wrap (z - oz) = z - oz := wrapS (by omega)
  have hof := fun W => of_ok a b c ha hb hc (x - ox) (y - oy) (z - oz) W (by omega) (by omega) (by omega)
  have p1 := pickI_le (n := 2000) (x := x - ox) (y := y - oy) (z := z - oz) (by omega) (by omega) (by omega) a
  have p2 := pickI_le (n := 2000) (x := x - ox) (y := y - oy) (z := z - oz) (by omega) (by omega) (by omega) b
  have p3 := pickI_le (n := 2000) (x := x - ox) (y := y - oy) (z := z - oz) (by omega) (by omega) (by omega) c
  generalize pickI (x - ox) (y - oy) (z - oz) a = r1 at hof p1 ⊢
  generalize pickI (x - ox) (y - oy) (z - oz) b = r2 at hof p2 ⊢
  generalize pickI (x - ox) (y - oy) (z - oz) c = r3 at hof p3 ⊢
  have e1 : IntKind.i64.wrap (ox + r1) = ox + r1 := wrapS (by omega)
  have e2 : IntKind.i64.wrap (oy + r2) = oy + r2 := wrapS (by omega)
  have e3 : IntKind.i64.wrap (oz + r3) = oz + r3 := wrapS (by omega)
  have n1 : p ≠ w.heap.size := by omega
  have n2 : p ≠ w.heap.size + 1 := by omega
  have m1 : q ≠ w.heap.size := by omega
  have m2 : q ≠ w.heap.size + 1 := by omega
  clear k1 k2 k3 j1 j2 j3 p1 p2 p3
  obtain ⟨W, hW⟩ : ∃ W, W = (w.alloc (.cells #[.int .i64 x, .int .i64 y, .int .i64 z] 34)).alloc (.cells #[.int .i64 0, .int .i64 0, .int .i64 0] 34) := ⟨_, rfl⟩
  have hBW : Below w.heap.size w W := by subst hW; exact ((Below.refl _ _).alloc (Nat.le_refl _) _).alloc (by simp) _
  have hsz : w.heap.size + 1 < W.heap.size := by subst hW; simp
  have hnw : W.heap[w.heap.size + 1]? = some (.cells #[.int .i64 0, .int .i64 0, .int .i64 0] 34 (0, 0)) := by
    subst hW
    have := heap_alloc_new (w.alloc (.cells #[.int .i64 x, .int .i64 y, .int .i64 z] 34)) (.cells #[.int .i64 0, .int .i64 0, .int .i64 0] 34)
    rw [show (w.alloc (.cells #[.int .i64 x, .int .i64 y, .int .i64 z] 34)).heap.size = w.heap.size + 1 by simp] at this
    exact this
  have f0 : ∀ W', Below W.heap.size W W' → W'.cell? ⟨q, 0, none⟩ = some (.int .i64 ox) ∧ W'.cell? ⟨q, 1, none⟩ = some (.int .i64 oy) ∧ W'.cell? ⟨q, 2, none⟩ = some (.int .i64 oz) := fun W' h => by
    have h' := hBW.trans (h.mono hBW.size)
    exact ⟨(h'.cell (p := ⟨q, 0, none⟩) hq).trans g0, (h'.cell (p := ⟨q, 1, none⟩) hq).trans g1, (h'.cell (p := ⟨q, 2, none⟩) hq).trans g2⟩
  go_enter Tryz.func51, Tryz.ntmps51
  go_wp2_with (go_at_call 52; (refine (hof _).mono ?_; rintro e w2 ⟨rfl, hB2⟩; rw [← hW] at hB2; obtain ⟨q0, q1, q2⟩ := f0 w2 hB2; have hz2 := (hB2.block _ hsz).trans hnw; have o0 : w2.cell? ⟨w.heap.size + 1, 0, none⟩ = some (.int .i64 0) := (by simp [World.cell?, hz2]); have o1 : w2.cell? ⟨w.heap.size + 1, 1, none⟩ = some (.int .i64 0) := (by simp [World.cell?, hz2]); have o2 : w2.cell? ⟨w.heap.size + 1, 2, none⟩ = some (.int .i64 0) := (by simp [World.cell?, hz2]); have fz := fun j => frozen_of_row w2 (w.heap.size + 1) j _ _ hz2; have hq2 : q < w2.heap.size := (by have := hB2.size; have := hBW.size; omega); have hq3 : q ≠ w2.heap.size := (by omega); have hs2 : w.heap.size + 1 < w2.heap.size := (by have := hB2.size; omega); have hs3 : w.heap.size + 1 ≠ w2.heap.size := (by omega)))
  have hB3 : Below w.heap.size w w2 := hBW.trans (hB2.mono hBW.size)
  have g3 := heap_setCell_same _ (w.heap.size + 1) 2 _ _ (.int .i64 (oz + r3)) (heap_setCell_same _ (w.heap.size + 1) 1 _ _ (.int .i64 (oy + r2)) (heap_setCell_same w2 (w.heap.size + 1) 0 _ _ (.int .i64 (ox + r1)) hz2))
  (try simp only [Exit.inBlock, Exit.then])
  refine bodyPost_ret (results_cell_row rfl _ _ _ 34 #[.int .i64 (ox + r1), .int .i64 (oy + r2), .int .i64 (oz + r3)] (0, 0) _ rfl ?hg Tryz.underlying34 rfl (by kernel_rfl)) rfl ?_
  case hg =>
    rw [Below.heap_alloc _ _ _ (by simpa [World.setCell] using hs2)]
    exact g3
  refine ⟨rfl, ?_⟩
  refine Below.alloc (((hB3.setCell (p := ⟨w.heap.size + 1, 0, none⟩) (Nat.le_succ _) _).setCell (p := ⟨w.heap.size + 1, 1, none⟩) (Nat.le_succ _) _).setCell (p := ⟨w.heap.size + 1, 2, none⟩) (Nat.le_succ _) _) ?_ _
  simp [World.setCell]
  omega
end Go.Proofs
end

section
namespace Go.Proofs
open Go.Shelf Go.RowKit Go.Lib Go.Sort
set_option maxHeartbeats 8000000
set_option maxRecDepth 1000000
def cellV (c : Cel) : Value := .agg #[.int .i64 c.1, .int .i64 c.2.1, .int .i64 c.2.2]

theorem run_len_map {w : World} {b : Nat} {es : Array MapEntry} {clock : Nat} (hb : w.heap[b]? = some (.map es clock)) :
    (Builtin.len_ #[78] 3 #[.map (some b)]).run Tryz.prog w = .ok (.int .i64 es.size) w := by
  simp [Builtin.len_, getObj, Sem.run_bind, Sem.run, hb, Result.andThen, underlying, program, Tryz.underlying78, goInt]
theorem run_range_map {w : World} {b : Nat} {es : Array MapEntry} {clock : Nat} (hb : w.heap[b]? = some (.map es clock)) :
    (Instr.range 78 (.map (some b))).run Tryz.prog w = .ok (.pointer (some ⟨w.heap.size, 0, none⟩)) (w.alloc (.mapIter (some b) clock #[] clock)) := by
  unfold Instr.range
  simp only [Sem.run_bind, run_underlying Tryz.underlying78, Result.andThen, getObj, Sem.run, hb]
  rfl

def sliceLen : Value → Nat
  | .slice _ n _ => n
  | _ => 0
def flatC (l : List Cel) : List Value := (l.map encC).flatten
theorem grown_setBlock {w w2 : World} (hal : w2 = w ∨ w2 = w.drew) (r : Nat) (o : Obj) : w.grownBy (ChangeMaps.setBlock w2 r o) (some r) := by
  rcases hal with rfl | rfl
  · exact ⟨rfl, rfl, rfl, by simp [ChangeMaps.setBlock], fun i _ hi => by
      show (_ : Array Obj)[i]? = _
      exact Array.getElem?_setIfInBounds_ne (fun e : r = i => hi (by rw [e]))⟩
  · exact ⟨rfl, rfl, rfl, by simp [ChangeMaps.setBlock], fun i _ hi => by
      show (_ : Array Obj)[i]? = _
      exact Array.getElem?_setIfInBounds_ne (fun e : r = i => hi (by rw [e]))⟩

theorem nodup_len {α : Type} [DecidableEq α] : ∀ {l m : List α}, l.Nodup → (∀ x ∈ l, x ∈ m) → l.length ≤ m.length
  | [], m, _, _ => Nat.zero_le _
  | x :: l, m, hn, hs => by
    rw [List.nodup_cons] at hn
    have hx : x ∈ m := hs x List.mem_cons_self
    have ih := nodup_len (l := l) (m := m.erase x) hn.2 (fun y hy => (List.mem_erase_of_ne (fun e : y = x => hn.1 (by rw [← e]; exact hy))).2 (hs y (List.mem_cons_of_mem _ hy)))
    rw [List.length_erase_of_mem hx] at ih
    have := List.length_pos_of_mem hx
    simp only [List.length_cons]
    omega
theorem nodup_perm {α : Type} [DecidableEq α] : ∀ {l m : List α}, l.Nodup → (∀ x ∈ l, x ∈ m) → m.length ≤ l.length → l.Perm m
  | [], m, _, _, h => by
    have : m = [] := List.eq_nil_of_length_eq_zero (Nat.le_zero.1 h)
    rw [this]
  | x :: l, m, hn, hs, h => by
    rw [List.nodup_cons] at hn
    have hx : x ∈ m := hs x List.mem_cons_self
    have ih := nodup_perm (l := l) (m := m.erase x) hn.2 (fun y hy => (List.mem_erase_of_ne (fun e : y = x => hn.1 (by rw [← e]; exact hy))).2 (hs y (List.mem_cons_of_mem _ hy)))
      (by rw [List.length_erase_of_mem hx]; simp only [List.length_cons] at h; omega)
    exact (ih.cons x).trans (List.perm_cons_erase hx).symm
theorem sortC_perm {l m : List Cel} (h : l.Perm m) : sortC l = sortC m := by
  have tr : ∀ a b c : Cel, (!ltC b a) = true → (!ltC c b) = true → (!ltC c a) = true := fun a b c h1 h2 => by
    simp only [Bool.not_eq_true'] at *
    exact swoC.ntrans c b a h2 h1
  have tot : ∀ a b : Cel, ((!ltC b a) || (!ltC a b)) = true := fun a b => by
    cases h1 : ltC b a with
    | false => rfl
    | true =>
      cases h2 : ltC a b with
      | false => rfl
      | true =>
        have := swoC.trans a b a h2 h1
        rw [swoC.irrefl] at this
        cases this
  refine List.Perm.eq_of_pairwise (le := fun x y => (!ltC y x) = true) ?_ ?_ ?_ ((List.mergeSort_perm _ _).trans (h.trans (List.mergeSort_perm _ _).symm))
  · intro a b _ _ h1 h2
    simp only [Bool.not_eq_true'] at h1 h2
    exact antiC a b h2 h1
  · exact List.pairwise_mergeSort (le := fun x y => !ltC y x) tr tot l
  · exact List.pairwise_mergeSort (le := fun x y => !ltC y x) tr tot m
theorem flatC_snoc (l : List Cel) (c : Cel) : flatC (l ++ [c]) = flatC l ++ encC c := by simp [flatC]

theorem flatC_get : ∀ {l : List Cel} {i : Nat} {c : Cel}, l[i]? = some c → (flatC l)[i * 3]? = some (.int .i64 c.1) ∧ (flatC l)[i * 3 + 1]? = some (.int .i64 c.2.1) ∧ (flatC l)[i * 3 + 2]? = some (.int .i64 c.2.2)
  | [], i, c, h => by simp at h
  | x :: l, 0, c, h => by
    obtain rfl : x = c := by simpa using h
    exact ⟨rfl, rfl, rfl⟩
  | x :: l, i + 1, c, h => by
    have ih := flatC_get (l := l) (i := i) (c := c) (by simpa using h)
    have e : flatC (x :: l) = encC x ++ flatC l := by simp [flatC]
    rw [e]
    have key : ∀ r, (encC x ++ flatC l)[(i + 1) * 3 + r]? = (flatC l)[i * 3 + r]? := fun r => by
      rw [List.getElem?_append_right (by simp [encC]; omega)]
      congr 1
      simp [encC]
      omega
    exact ⟨(key 0).trans ih.1, (key 1).trans ih.2.1, (key 2).trans ih.2.2⟩
theorem owns_row {w : World} {B0 g n cap : Nat} {T : TypeId} {l : List Cel} (h : w.ownsRow B0 T 3 (.slice (some ⟨g, 0, none⟩) n cap) n (flatC l)) : RowAt w g 0 l := fun i c hc => by
  obtain ⟨h0, h1, h2⟩ := flatC_get hc
  have key := fun j u hj => h.cells (g := g) rfl j u hj
  have e : ∀ j, (⟨g, 0, none⟩ : Addr).add j = ⟨g, j, none⟩ := fun j => by
    unfold Addr.add
    by_cases hj : j = 0
    · subst hj; rfl
    · simp [hj]
  refine ⟨?_, ?_, ?_⟩
  · have := key _ _ h0; rw [e] at this; simpa using this
  · have := key _ _ h1; rw [e] at this; simpa using this
  · have := key _ _ h2; rw [e] at this; simpa using this
theorem inj_of_nodup_map {α β : Type} {f : α → β} : ∀ {l : List α}, (l.map f).Nodup → ∀ a ∈ l, ∀ b ∈ l, f a = f b → a = b
  | [], _, a, ha, _, _, _ => by cases ha
  | x :: l, h, a, ha, b, hb, e => by
    rw [List.map_cons, List.nodup_cons] at h
    rcases List.mem_cons.1 ha with rfl | ha'
    · rcases List.mem_cons.1 hb with rfl | hb'
      · rfl
      · exact absurd (List.mem_map.2 ⟨b, hb', e.symm⟩) h.1
    · rcases List.mem_cons.1 hb with rfl | hb'
      · exact absurd (List.mem_map.2 ⟨a, ha', e⟩) h.1
      · exact inj_of_nodup_map h.2 a ha' b hb' e

theorem cells_ok (b : Nat) (es : Array MapEntry) (clock : Nat) (kc : MapEntry → Cel) (w : World) (hb : w.heap[b]? = some (.map es clock)) (hk : ∀ e ∈ es.toList, e.key = cellV (kc e)) (hn : es.size ≤ 4096)
    (hborn : ∀ e ∈ es.toList, e.born < clock) (hnd : (es.toList.map (·.born)).Nodup) (hkd : (es.toList.map kc).Nodup) :
    Calls Tryz.prog 46 #[.map (some b)] w fun e w' => ∃ B, e = .returned (.slice (some ⟨B, 0, none⟩) es.size es.size) ∧ w.heap.size ≤ B ∧ Filled w' B es.size 34 (sortC (es.toList.map kc)) ∧ Below w.heap.size w w' := by
  obtain ⟨j0, hj, hy0, hy1, hy2⟩ := info_parts (P := Tryz.prog) (e := 34) (z := .agg #[.int .i64 0, .int .i64 0, .int .i64 0]) (size := 3) (bytes := 24) (by kernel_rfl)
  have hlen := run_len_map hb
  go_enter Tryz.func46, Tryz.ntmps46
  go_wp2_with (at_make; refine wpList_make_own _ rfl _ _ 22 rfl w.heap.size 34 j0 _ 3 Tryz.underlying22 hj hy0 hy1 .i64 .i64 _ es.size rfl rfl rfl ?d1 ?d2 ?d3 ?_)
  case d1 => rw [hy2]; omega
  case d2 => unfold maxLen; omega
  case d3 => exact Nat.le_refl _
  intro w1 hown hgrow
  have hbl : b < w.heap.size := (Array.getElem?_eq_some_iff.1 hb).1
  have hB1 : Below w.heap.size w w1 := (Below.refl _ _).grown hgrow (Nat.le_refl _) (fun k hk => by cases hk)
  have hb1 : w1.heap[b]? = some (.map es clock) := by rw [hB1.block b hbl]; exact hb
  have hrg := run_range_map hb1
  go_wp2
  have hrl : w.heap.size < w1.heap.size := by
    have := hown.lt w.heap.size rfl
    exact this.2
  go_loopw [3] (fun v wr => ∃ vis : List MapEntry, v = .slice (some ⟨w.heap.size, 0, none⟩) vis.length es.size ∧ wr.heap[w1.heap.size]? = some (.mapIter (some b) clock (vis.map (·.born)).toArray clock) ∧
      wr.ownsRow w.heap.size 34 3 v vis.length (flatC (vis.map kc)) ∧ Below w.heap.size w wr ∧ (∀ e ∈ vis, e ∈ es.toList) ∧ (vis.map (·.born)).Nodup) (fun v _ => es.size - sliceLen v)
  case atStart => 
    exact ⟨[], rfl, heap_alloc_new _ _, hown.alloc _, hB1.alloc (Nat.le_of_lt hrl) _, (fun e h => by cases h), List.nodup_nil⟩
  case round =>
    obtain ⟨vis, rfl, hr, hown', hBel, hsub, hvd⟩ := hrel
    have hbw : wr.heap[b]? = some (.map es clock) := by rw [hBel.block b hbl]; exact hb
    rcases run_next_at (P := Tryz.prog) wr 0 w1.heap.size b clock clock (vis.map (·.born)).toArray es clock hr hbw hborn (Nat.le_refl _) with ⟨h0, hnx⟩ | ⟨e, he, w2, hal, hnx⟩
    · have hall : ∀ x ∈ es.toList, x.born ∈ vis.map (·.born) := fun x hx => by
        have he : leftOf es (vis.map (·.born)).toArray = #[] := Array.eq_empty_of_size_eq_zero h0
        have := (Array.filter_eq_empty_iff.1 he) x (by simpa using hx)
        simpa using this
      have hlen' : vis.length = es.size := by
        have h1 := nodup_len hvd (m := es.toList.map (·.born)) (fun x hx => by
          obtain ⟨y, hy, rfl⟩ := List.mem_map.1 hx
          exact List.mem_map.2 ⟨y, hsub y hy, rfl⟩)
        have h2 := nodup_len hnd (m := vis.map (·.born)) (fun x hx => by
          obtain ⟨y, hy, rfl⟩ := List.mem_map.1 hx
          exact hall y hy)
        simp at h1 h2
        omega
      have hkn : (vis.map kc).Nodup := by
        rw [List.Nodup, List.pairwise_map] at hvd ⊢
        refine List.Pairwise.imp_of_mem (fun {a c} ha hc hne e => hne ?_) hvd
        rw [inj_of_nodup_map hkd a (hsub a ha) c (hsub c hc) e]
      have hperm : (vis.map kc).Perm (es.toList.map kc) := nodup_perm hkn (fun x hx => by
        obtain ⟨y, hy, rfl⟩ := List.mem_map.1 hx
        exact List.mem_map.2 ⟨y, hsub y hy, rfl⟩) (by simp [hlen'])
      have hso := sorted_ok (vis.map kc) w.heap.size 0 es.size wr (owns_row hown') (hown'.lt _ rfl).2 (by simp [hlen', hn]) hkn
      rw [sortC_perm hperm, List.length_map, hlen'] at hso
      rw [hlen'] at hown' ⊢
      clear hrg hlen hown hall hkn hperm hown'
      go_wp2_with (go_at_call 74; refine hso.mono ?_; rintro e w' ⟨B, rfl, hBB, hF, hB'⟩)
      go_ret
      exact ⟨B, rfl, Nat.le_trans hBel.size hBB, hF, hBel.trans (hB'.mono hBel.size)⟩
    · obtain ⟨w3, hw3⟩ : ∃ w3, w3 = ChangeMaps.setBlock w2 w1.heap.size (.mapIter (some b) clock ((vis.map (·.born)).toArray.push e.born) clock) := ⟨_, rfl⟩
      have hg3 : wr.grownBy w3 (some w1.heap.size) := by rw [hw3]; exact grown_setBlock hal _ _
      have hrlt : w1.heap.size < wr.heap.size := (Array.getElem?_eq_some_iff.1 hr).1
      have hr3 : w3.heap[w1.heap.size]? = some (.mapIter (some b) clock ((vis.map (·.born)).toArray.push e.born) clock) := by
        rw [hw3]
        have : w1.heap.size < w2.heap.size := by rcases hal with rfl | rfl <;> exact hrlt
        simp [ChangeMaps.setBlock, this]
      rw [← hw3] at hnx
      have hbr : b ≠ w1.heap.size := by omega
      have hb3 : w3.heap[b]? = some (.map es clock) := by
        rw [hg3.block b (by have := hBel.size; omega) (by simpa using hbr)]; exact hbw
      have hein : e ∈ es.toList := by
        have := he
        simp [leftOf] at this
        simpa using this.1
      have hent := run_entry_at (P := Tryz.prog) w3 w1.heap.size b clock (vis.map (·.born)).toArray es clock e hr3 hb3 hein hnd
      have hke := hk e hein
      rw [hke] at hnx hent
      unfold cellV at hnx hent
      have hown3 := hown'.kept hg3 (.inr (by simp only [Value.ownBlock]; simp; omega))
      have hB3 : Below w.heap.size w w3 := hBel.grown hg3 hBel.size (fun k hk => by cases hk; exact Nat.le_of_lt hrl)
      clear hrg hlen hown hal hw3 hke
      have hnew : e.born ∉ vis.map (·.born) := by
        have := he
        simp [leftOf] at this
        simpa using this.2
      have hvd' : ((vis ++ [e]).map (·.born)).Nodup := by
        rw [List.map_append, List.nodup_append]
        refine ⟨hvd, by simp, fun a ha b hb' => ?_⟩
        simp only [List.map_cons, List.map_nil, List.mem_singleton] at hb'
        subst hb'
        intro h
        subst h
        exact hnew ha
      have hsub' : ∀ x ∈ vis ++ [e], x ∈ es.toList := fun x hx => by
        rcases List.mem_append.1 hx with h | h
        · exact hsub x h
        · simp only [List.mem_singleton] at h; subst h; exact hein
      have hroom : vis.length + 1 ≤ es.size := by
        have := nodup_len hvd' (m := es.toList.map (·.born)) (fun x hx => by
          obtain ⟨y, hy, rfl⟩ := List.mem_map.1 hx
          exact List.mem_map.2 ⟨y, hsub' y hy, rfl⟩)
        simpa using this
      go_wp2_with (at_builtin; refine wpList_append_fits _ rfl _ _ 22 rfl w.heap.size 34 j0 3 Tryz.underlying22 hj hy1 w.heap.size vis.length es.size _ rfl ((hown3.alloc _).alloc _) ⟨w3.heap.size + 1, 0, none⟩ 1 1 (encC (kc e)) rfl rfl ?c1 ?c2 ?c3 ?_)
      case c1 =>
        intro j u hu
        match j, hu with
        | 0, hu => simp [encC] at hu; subst hu; go_simp
        | 1, hu => simp [encC] at hu; subst hu; go_simp
        | 2, hu => simp [encC] at hu; subst hu; go_simp
      case c2 => intro u hu; simp [encC] at hu; rcases hu with rfl | rfl | rfl <;> rfl
      case c3 => exact hroom
      intro w5 hown5 hg5
      go_wp2
      refine ⟨⟨vis ++ [e], by simp, ?_, ?_, ?_, hsub', hvd'⟩, ?_⟩
      · rw [hg5.block w1.heap.size (by have := hg3.size; simp; omega) (by simp; omega), Below.heap_alloc _ _ _ (by have := hg3.size; simp; omega), Below.heap_alloc _ _ _ (by have := hg3.size; omega), hr3]
        simp
      · rw [List.map_append, List.map_cons, List.map_nil, flatC_snoc, List.length_append]
        exact hown5
      · exact ((hB3.alloc hB3.size _).alloc (by have := hB3.size; simp; omega) _).grown hg5 (by have := hB3.size; simp; omega) (fun k hk => by cases hk; exact Nat.le_refl _)
      · simp [sliceLen]; omega
end Go.Proofs
end
