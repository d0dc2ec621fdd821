import Derived.Test.YtfdhppdkgfioaaaGreatDoorSortFunc
import Derived.Deep.QuietTactic
import Derived.BigQuiet
import Derived.Laws.StructEq
import Derived.Shelf.SlicesE.Kit
import Derived.Maps.RangeRun
section
namespace Go.Proofs
open Go.Shelf Go.RowKit Go.Lib Go.Sort
set_option maxHeartbeats 4000000
set_option maxRecDepth 1000000

theorem Filled.cell {w : World} {B n : Nat} {T : TypeId} {l : List Cel} (h : Filled w B n T l) {i : Nat} {c : Cel} (hc : l[i]? = some c) :
    w.cell? ⟨B, i * 3, none⟩ = some (.int .i64 c.1) ∧ w.cell? ⟨B, i * 3 + 1, none⟩ = some (.int .i64 c.2.1) ∧ w.cell? ⟨B, i * 3 + 2, none⟩ = some (.int .i64 c.2.2) := by
  obtain ⟨arr, ha, has, hav⟩ := h
  obtain ⟨h0, h1, h2⟩ := hav i c hc
  exact ⟨by simp [World.cell?, ha, h0], by simp [World.cell?, ha, h1], by simp [World.cell?, ha, h2]⟩

theorem eqI194 (x y z x' y' z' : Int) (w : World) : (Op.equalIn 10000 203 (.agg #[.int .i64 x, .int .i64 y, .int .i64 z]) (.agg #[.int .i64 x', .int .i64 y', .int .i64 z'])).run Tryz.prog w = .ok (x == x' && (y == y' && z == z')) w := by
  have u3 := Tryz.underlying3
  have a3 := Tryz.isAgg3
  have z3 := Tryz.sizeOf3
  have hS : Tryz.prog.underlying 203 = some (.struct (Tryz.prog.fieldsOf 203)) := by kernel_rfl
  have hp : Tryz.prog.stoodInHeld 203 = false := by kernel_rfl
  rw [show (10000 : Nat) = 9999 + 1 from rfl, run_equalIn_agg w 9999 203 _ _ hS hp]
  simp only [Program.fieldsOf, Tryz.underlying203]
  go_simp
  by_cases h1 : x = x' <;> by_cases h2 : y = y' <;> by_cases h3 : z = z' <;> simp [h1, h2, h3]
theorem compact_ok (l : List Cel) (B cap : Nat) (w : World) (h : Filled w B l.length 203 l) (hn : l.length ≤ 4096) (hd : ∀ i a b, l[i]? = some a → l[i+1]? = some b → a ≠ b) :
    Calls Tryz.prog 156 #[.slice (some ⟨B, 0, none⟩) l.length cap] w fun e w' => e = .returned (.slice (some ⟨B, 0, none⟩) l.length cap) ∧ ∃ q, w' = w.drewN q := by
  go_enter Tryz.func156, Tryz.ntmps156
  go_wp2
  · go_ret
    exact ⟨rfl, 0, rfl⟩
  · go_loopw [3] (fun i wr => ∃ k q : Nat, 1 ≤ k ∧ k ≤ l.length ∧ i = .int .i64 k ∧ wr = w.drewN q) (fun i _ => l.length - (intOf i).toNat)
    case atStart => exact ⟨1, 0, Nat.le_refl _, by omega, rfl, rfl⟩
    case round =>
      obtain ⟨k, q, hk1, hk, rfl, rfl⟩ := hrel
      rcases Nat.lt_or_eq_of_le hk with hkn | rfl
      · obtain ⟨m, rfl⟩ : ∃ m, k = m + 1 := ⟨k - 1, by omega⟩
        obtain ⟨x, y, z, hc⟩ : ∃ x y z, l[m+1]? = some (x, y, z) := ⟨_, _, _, List.getElem?_eq_getElem hkn⟩
        obtain ⟨x', y', z', hc'⟩ : ∃ x y z, l[m]? = some (x, y, z) := ⟨_, _, _, List.getElem?_eq_getElem (by omega)⟩
        obtain ⟨a0, a1, a2⟩ := h.cell hc
        obtain ⟨b0, b1, b2⟩ := h.cell hc'
        have hne := hd m _ _ hc' hc
        have hne' : (x == x' && (y == y' && z == z')) = false := by
          simp only [ne_eq, Prod.mk.injEq, not_and] at hne
          simp only [Bool.and_eq_false_iff, beq_eq_false_iff_ne, ne_eq]
          omega
        have heq := fun W => eqI194 x y z x' y' z' W
        rw [hne'] at heq
        clear h hd hne hne'
        have i0 : (0 : Int) ≤ (m : Int) + 1 := by omega
        have i1 : (m : Int) + 1 < (l.length : Int) := by omega
        have i2 : (m : Int) < (l.length : Int) := by omega
        have i3 : ((m : Int) + 1).toNat = m + 1 := by omega
        have i4 : IntKind.i64.wrap (m : Int) = (m : Int) := by simp [IntKind.wrap, IntKind.bits, IntKind.signed]; omega
        go_wp2_with fail
        go_quiet (fail)
        go_wp2
        refine ⟨⟨m + 2, q + _, by omega, by omega, by rw [show ((m : Int) + 1 + 1) = ((m + 2 : Nat) : Int) by omega], rfl⟩, ?_⟩
        simp [intOf]; omega
      · clear h hd
        go_wp2
        go_ret
        exact ⟨rfl, q, rfl⟩
end Go.Proofs
end

section
namespace Go.Proofs
open Go.Shelf Go.RowKit Go.Lib Go.Sort
set_option maxHeartbeats 8000000
set_option maxRecDepth 1000000

theorem sortC_nodup {l : List Cel} (h : l.Nodup) : ∀ i a b, (sortC l)[i]? = some a → (sortC l)[i+1]? = some b → a ≠ b := by
  have hp : (sortC l).Perm l := List.mergeSort_perm _ _
  have hn : (sortC l).Nodup := hp.nodup_iff.2 h
  intro i a b ha hb e
  subst e
  have h1 := (List.getElem?_eq_some_iff.1 ha)
  have h2 := (List.getElem?_eq_some_iff.1 hb)
  obtain ⟨i1, e1⟩ := h1
  obtain ⟨i2, e2⟩ := h2
  have hpw : (sortC l).Pairwise (· ≠ ·) := hn
  exact (List.pairwise_iff_getElem.1 hpw i (i+1) i1 i2 (Nat.lt_succ_self i)) (e1.trans e2.symm)
theorem sortC_len (l : List Cel) : (sortC l).length = l.length := (List.mergeSort_perm _ _).length_eq

theorem made_filled {w w1 : World} {B0 n : Nat} {T : TypeId} {xs : List Value} {v : Value} (hv : v = .slice (some ⟨w.heap.size, 0, none⟩) n n) (hown : w1.ownsRow B0 T 3 v n xs) (l : List Cel) : Filled w1 w.heap.size n T (l.take 0) ∧ w.heap.size < w1.heap.size := by
  rcases hown.2 with ⟨h, _⟩ | ⟨g, c', cur, h, _, hg, _, _, hcs, _⟩
  · rw [hv] at h; cases h
  · rw [hv] at h
    simp only [Value.slice.injEq, Option.some.injEq, Addr.mk.injEq] at h
    obtain ⟨⟨rfl, _⟩, _, rfl⟩ := h
    exact ⟨⟨cur, hg, hcs, fun i c h => by simp at h⟩, (Array.getElem?_eq_some_iff.1 hg).1⟩
theorem Filled.lt {w : World} {B n : Nat} {T : TypeId} {l : List Cel} (h : Filled w B n T l) : B < w.heap.size := by
  obtain ⟨arr, ha, _⟩ := h
  exact (Array.getElem?_eq_some_iff.1 ha).1
theorem Filled.below {w w' : World} {B B' n : Nat} {T : TypeId} {l : List Cel} (h : Filled w B n T l) (hb : Below B' w w') (hB : B < B') : Filled w' B n T l := by
  obtain ⟨arr, ha, r⟩ := h
  exact ⟨arr, by rw [hb.block _ hB]; exact ha, r⟩
theorem Filled.row {w : World} {B n : Nat} {T : TypeId} {l : List Cel} (h : Filled w B n T l) : RowAt w B 0 l := fun i c hc => by
  have := h.cell hc
  simpa using this

theorem sorted_ok (l : List Cel) (blk off cap : Nat) (w : World) (hl : RowAt w blk off l) (hb : blk < w.heap.size) (hn : l.length ≤ 4096) (hnd : l.Nodup) :
    Calls Tryz.prog 113 #[.slice (some ⟨blk, off, none⟩) l.length cap] w fun e w' => ∃ B, e = .returned (.slice (some ⟨B, 0, none⟩) l.length l.length) ∧ w.heap.size ≤ B ∧ Filled w' B l.length 24 (sortC l) ∧ Below w.heap.size w w' := by
  obtain ⟨i0, hi, hz0, hz1, hz2⟩ := info_parts (P := Tryz.prog) (e := 203) (z := .agg #[.int .i64 0, .int .i64 0, .int .i64 0]) (size := 3) (bytes := 24) (by kernel_rfl)
  obtain ⟨j0, hj, hy0, hy1, hy2⟩ := info_parts (P := Tryz.prog) (e := 24) (z := .agg #[.int .i64 0, .int .i64 0, .int .i64 0]) (size := 3) (bytes := 24) (by kernel_rfl)
  go_enter Tryz.func113, Tryz.ntmps113
  go_wp2_with (at_make; refine wpList_make_full _ rfl _ _ 205 rfl w.heap.size 203 i0 _ 3 Tryz.underlying205 hi hz0 hz1 .i64 .i64 _ _ l.length rfl rfl rfl rfl ?c1 ?c2 ?c3 ?_)
  case c1 => rw [hz2]; omega
  case c2 => unfold maxLen; omega
  case c3 => exact Nat.le_refl _
  intro w1 hown hgrow
  have hF1 : Filled w1 w.heap.size l.length 203 (l.take 0) ∧ w.heap.size < w1.heap.size := by
    rcases hown.2 with ⟨hv, _⟩ | ⟨g, c', cur, hv, _, hg, _, _, hcs, _⟩
    · cases hv
    · simp only [Value.slice.injEq, Option.some.injEq, Addr.mk.injEq] at hv
      obtain ⟨⟨rfl, _⟩, _, rfl⟩ := hv
      refine ⟨⟨cur, hg, hcs, fun i c h => by simp at h⟩, ?_⟩
      exact (Array.getElem?_eq_some_iff.1 hg).1
  have hB1 : Below w.heap.size w w1 := (Below.refl _ _).grown hgrow (Nat.le_refl _) (fun k hk => by cases hk)
  clear hown hgrow
  go_wp2
  go_loopw [14] (fun i wr => ∃ k : Nat, k ≤ l.length ∧ i = .int .i64 k ∧ Filled wr w.heap.size l.length 203 (l.take k) ∧ w.heap.size < wr.heap.size ∧ Below w.heap.size w wr) (fun i _ => l.length - (intOf i).toNat)
  case atStart => exact ⟨0, Nat.zero_le _, rfl, hF1.1, hF1.2, hB1⟩
  case round =>
    obtain ⟨k, hk, rfl, hF, hlt, hBel⟩ := hrel
    rcases Nat.lt_or_eq_of_le hk with hkn | rfl
    · obtain ⟨x, y, z, hc⟩ : ∃ x y z, l[k]? = some (x, y, z) := ⟨_, _, _, List.getElem?_eq_getElem hkn⟩
      obtain ⟨r0, r1, r2⟩ := hl k _ hc
      rw [← hBel.cell (p := ⟨blk, off + k * 3, none⟩) hb] at r0
      rw [← hBel.cell (p := ⟨blk, off + k * 3 + 1, none⟩) hb] at r1
      rw [← hBel.cell (p := ⟨blk, off + k * 3 + 2, none⟩) hb] at r2
      have fz := hF.fz
      obtain ⟨v0, o0⟩ := hF.old (j := k * 3) (by omega)
      obtain ⟨v1, o1⟩ := hF.old (j := k * 3 + 1) (by omega)
      obtain ⟨v2, o2⟩ := hF.old (j := k * 3 + 2) (by omega)
      have hput := fun o => hF.put hkn hc o
      clear hB1 hF1 hl hF
      go_wp2
      refine ⟨⟨k + 1, hkn, rfl, hput _, by simp [World.setCell]; omega, below3 hBel (Nat.le_of_lt hlt) k _ _ _ _⟩, ?_⟩
      simp [intOf]; omega
    · clear hl hF1 hB1
      rw [List.take_length] at hF
      have hsf := sortFunc_ok l w.heap.size l.length wr hF (by omega)
      clear hF
      have hcp : ∀ W, Filled W w.heap.size l.length 203 (sortC l) → Calls Tryz.prog 156 #[.slice (some ⟨w.heap.size, 0, none⟩) l.length l.length] W fun e w' => e = .returned (.slice (some ⟨w.heap.size, 0, none⟩) l.length l.length) ∧ Filled w' w.heap.size l.length 203 (sortC l) ∧ Below w.heap.size W w' := fun W hW => by
        have := compact_ok (sortC l) w.heap.size l.length W (by rw [sortC_len]; exact hW) (by rw [sortC_len]; exact hn) (sortC_nodup hnd)
        rw [sortC_len] at this
        refine this.mono ?_
        rintro e w' ⟨rfl, q, rfl⟩
        exact ⟨rfl, hW, ⟨rfl, rfl, rfl, Nat.le_refl _, fun _ _ => rfl⟩⟩
      go_wp2_with (first
        | (go_at_call 155; refine hsf.mono ?_; rintro e w2 ⟨rfl, hF2, hB2⟩)
        | (go_at_call 156; refine (hcp _ hF2).mono ?_; rintro e w3 ⟨rfl, hF3, hB3⟩)
        | (at_make; refine wpList_make_full _ rfl _ _ 22 rfl w3.heap.size 24 j0 _ 3 Tryz.underlying22 hj hy0 hy1 .i64 .i64 _ _ l.length rfl rfl rfl rfl ?d1 ?d2 ?d3 ?_))
      case d1 => rw [hy2]; omega
      case d2 => unfold maxLen; omega
      case d3 => exact Nat.le_refl _
      intro w4 hown hgrow
      have hF4 := made_filled rfl hown (sortC l)
      have hB4 : Below w3.heap.size w3 w4 := (Below.refl _ _).grown hgrow (Nat.le_refl _) (fun k hk => by cases hk)
      have hB0 : Below w.heap.size w w3 := (hBel.trans hB2).trans hB3
      have hlt3 := hF3.lt
      clear hown hgrow hsf hcp hF2 hB2 hBel hlt hB3
      go_wp2
      go_loopw [33] (fun i wr => ∃ k : Nat, k ≤ l.length ∧ i = .int .i64 k ∧ Filled wr w3.heap.size l.length 24 ((sortC l).take k) ∧ w3.heap.size < wr.heap.size ∧ Below w3.heap.size w3 wr) (fun i _ => l.length - (intOf i).toNat)
      case atStart => exact ⟨0, Nat.zero_le _, rfl, hF4.1, hF4.2, hB4⟩
      case round =>
        obtain ⟨k, hk, rfl, hF, hlt, hBel⟩ := hrel
        rcases Nat.lt_or_eq_of_le hk with hkn | rfl
        · obtain ⟨x, y, z, hc⟩ : ∃ x y z, (sortC l)[k]? = some (x, y, z) := ⟨_, _, _, List.getElem?_eq_getElem (by rw [sortC_len]; exact hkn)⟩
          obtain ⟨r0, r1, r2⟩ := (hF3.below hBel hlt3).cell hc
          have fz := hF.fz
          obtain ⟨v0, o0⟩ := hF.old (j := k * 3) (by omega)
          obtain ⟨v1, o1⟩ := hF.old (j := k * 3 + 1) (by omega)
          obtain ⟨v2, o2⟩ := hF.old (j := k * 3 + 2) (by omega)
          have hput := fun o => hF.put hkn hc o
          clear hF hF3 hF4 hB4
          go_wp2
          refine ⟨⟨k + 1, hkn, rfl, hput _, by simp [World.setCell]; omega, below3 hBel (Nat.le_of_lt hlt) k _ _ _ _⟩, ?_⟩
          simp [intOf]; omega
        · rw [List.take_of_length_le (by rw [sortC_len]; exact Nat.le_refl _)] at hF
          clear hF3 hF4 hB4
          go_wp2
          go_ret
          exact ⟨_, rfl, Nat.le_of_lt hlt3, hF, hB0.trans (hBel.mono (Nat.le_of_lt hlt3))⟩
end Go.Proofs
end

section
namespace Go.Proofs
open Go.Shelf Go.RowKit Go.Lib Go.Sort
set_option maxHeartbeats 8000000
set_option maxRecDepth 1000000
def cellV (c : Cel) : Value := .agg #[.int .i64 c.1, .int .i64 c.2.1, .int .i64 c.2.2]

theorem run_len_map {w : World} {b : Nat} {es : Array MapEntry} {clock : Nat} (hb : w.heap[b]? = some (.map es clock)) :
    (Builtin.len_ #[157] 3 #[.map (some b)]).run Tryz.prog w = .ok (.int .i64 es.size) w := by
  simp [Builtin.len_, getObj, Sem.run_bind, Sem.run, hb, Result.andThen, underlying, program, Tryz.underlying157, goInt]
theorem run_range_map {w : World} {b : Nat} {es : Array MapEntry} {clock : Nat} (hb : w.heap[b]? = some (.map es clock)) :
    (Instr.range 157 (.map (some b))).run Tryz.prog w = .ok (.pointer (some ⟨w.heap.size, 0, none⟩)) (w.alloc (.mapIter (some b) clock #[] clock)) := by
  unfold Instr.range
  simp only [Sem.run_bind, run_underlying Tryz.underlying157, Result.andThen, getObj, Sem.run, hb]
  rfl

def sliceLen : Value → Nat
  | .slice _ n _ => n
  | _ => 0
def flatC (l : List Cel) : List Value := (l.map encC).flatten
theorem grown_setBlock {w w2 : World} (hal : w2 = w ∨ w2 = w.drew) (r : Nat) (o : Obj) : w.grownBy (ChangeMaps.setBlock w2 r o) (some r) := by
  rcases hal with rfl | rfl
  · exact ⟨rfl, rfl, rfl, by simp [ChangeMaps.setBlock], fun i _ hi => by
      show (_ : Array Obj)[i]? = _
      exact Array.getElem?_setIfInBounds_ne (fun e : r = i => hi (by rw [e]))⟩
  · exact ⟨rfl, rfl, rfl, by simp [ChangeMaps.setBlock], fun i _ hi => by
      show (_ : Array Obj)[i]? = _
      exact Array.getElem?_setIfInBounds_ne (fun e : r = i => hi (by rw [e]))⟩

theorem nodup_len {α : Type} [DecidableEq α] : ∀ {l m : List α}, l.Nodup → (∀ x ∈ l, x ∈ m) → l.length ≤ m.length
  | [], m, _, _ => Nat.zero_le _
  | x :: l, m, hn, hs => by
    rw [List.nodup_cons] at hn
    have hx : x ∈ m := hs x List.mem_cons_self
    have ih := nodup_len (l := l) (m := m.erase x) hn.2 (fun y hy => (List.mem_erase_of_ne (fun e : y = x => hn.1 (by rw [← e]; exact hy))).2 (hs y (List.mem_cons_of_mem _ hy)))
    rw [List.length_erase_of_mem hx] at ih
    have := List.length_pos_of_mem hx
    simp only [List.length_cons]
    omega
theorem nodup_perm {α : Type} [DecidableEq α] : ∀ {l m : List α}, l.Nodup → (∀ x ∈ l, x ∈ m) → m.length ≤ l.length → l.Perm m
  | [], m, _, _, h => by
    have : m = [] := List.eq_nil_of_length_eq_zero (Nat.le_zero.1 h)
    rw [this]
  | x :: l, m, hn, hs, h => by
    rw [List.nodup_cons] at hn
    have hx : x ∈ m := hs x List.mem_cons_self
    have ih := nodup_perm (l := l) (m := m.erase x) hn.2 (fun y hy => (List.mem_erase_of_ne (fun e : y = x => hn.1 (by rw [← e]; exact hy))).2 (hs y (List.mem_cons_of_mem _ hy)))
      (by rw [List.length_erase_of_mem hx]; simp only [List.length_cons] at h; omega)
    exact (ih.cons x).trans (List.perm_cons_erase hx).symm
theorem sortC_perm {l m : List Cel} (h : l.Perm m) : sortC l = sortC m := by
  have tr : ∀ a b c : Cel, (!ltC b a) = true → (!ltC c b) = true → (!ltC c a) = true := fun a b c h1 h2 => by
    simp only [Bool.not_eq_true'] at *
    exact swoC.ntrans c b a h2 h1
  have tot : ∀ a b : Cel, ((!ltC b a) || (!ltC a b)) = true := fun a b => by
    cases h1 : ltC b a with
    | false => rfl
    | true =>
      cases h2 : ltC a b with
      | false => rfl
      | true =>
        have := swoC.trans a b a h2 h1
        rw [swoC.irrefl] at this
        cases this
  refine List.Perm.eq_of_pairwise (le := fun x y => (!ltC y x) = true) ?_ ?_ ?_ ((List.mergeSort_perm _ _).trans (h.trans (List.mergeSort_perm _ _).symm))
  · intro a b _ _ h1 h2
    simp only [Bool.not_eq_true'] at h1 h2
    exact antiC a b h2 h1
  · exact List.pairwise_mergeSort (le := fun x y => !ltC y x) tr tot l
  · exact List.pairwise_mergeSort (le := fun x y => !ltC y x) tr tot m
theorem flatC_snoc (l : List Cel) (c : Cel) : flatC (l ++ [c]) = flatC l ++ encC c := by simp [flatC]

theorem flatC_get : ∀ {l : List Cel} {i : Nat} {c : Cel}, l[i]? = some c → (flatC l)[i * 3]? = some (.int .i64 c.1) ∧ (flatC l)[i * 3 + 1]? = some (.int .i64 c.2.1) ∧ (flatC l)[i * 3 + 2]? = some (.int .i64 c.2.2)
  | [], i, c, h => by simp at h
  | x :: l, 0, c, h => by
    obtain rfl : x = c := by simpa using h
    exact ⟨rfl, rfl, rfl⟩
  | x :: l, i + 1, c, h => by
    have ih := flatC_get (l := l) (i := i) (c := c) (by simpa using h)
    have e : flatC (x :: l) = encC x ++ flatC l := by simp [flatC]
    rw [e]
    have key : ∀ r, (encC x ++ flatC l)[(i + 1) * 3 + r]? = (flatC l)[i * 3 + r]? := fun r => by
      rw [List.getElem?_append_right (by simp [encC]; omega)]
      congr 1
      simp [encC]
      omega
    exact ⟨(key 0).trans ih.1, (key 1).trans ih.2.1, (key 2).trans ih.2.2⟩
theorem owns_row {w : World} {B0 g n cap : Nat} {T : TypeId} {l : List Cel} (h : w.ownsRow B0 T 3 (.slice (some ⟨g, 0, none⟩) n cap) n (flatC l)) : RowAt w g 0 l := fun i c hc => by
  obtain ⟨h0, h1, h2⟩ := flatC_get hc
  have key := fun j u hj => h.cells (g := g) rfl j u hj
  have e : ∀ j, (⟨g, 0, none⟩ : Addr).add j = ⟨g, j, none⟩ := fun j => by
    unfold Addr.add
    by_cases hj : j = 0
    · subst hj; rfl
    · simp [hj]
  refine ⟨?_, ?_, ?_⟩
  · have := key _ _ h0; rw [e] at this; simpa using this
  · have := key _ _ h1; rw [e] at this; simpa using this
  · have := key _ _ h2; rw [e] at this; simpa using this
theorem inj_of_nodup_map {α β : Type} {f : α → β} : ∀ {l : List α}, (l.map f).Nodup → ∀ a ∈ l, ∀ b ∈ l, f a = f b → a = b
  | [], _, a, ha, _, _, _ => by cases ha
  | x :: l, h, a, ha, b, hb, e => by
    rw [List.map_cons, List.nodup_cons] at h
    rcases List.mem_cons.1 ha with rfl | ha'
    · rcases List.mem_cons.1 hb with rfl | hb'
      · rfl
      · exact absurd (List.mem_map.2 ⟨b, hb', e.symm⟩) h.1
    · rcases List.mem_cons.1 hb with rfl | hb'
      · exact absurd (List.mem_map.2 ⟨a, ha', e⟩) h.1
      · exact inj_of_nodup_map h.2 a ha' b hb' e

theorem cells_ok (b : Nat) (es : Array MapEntry) (clock : Nat) (kc : MapEntry → Cel) (w : World) (hb : w.heap[b]? = some (.map es clock)) (hk : ∀ e ∈ es.toList, e.key = cellV (kc e)) (hn : es.size ≤ 4096)
    (hborn : ∀ e ∈ es.toList, e.born < clock) (hnd : (es.toList.map (·.born)).Nodup) (hkd : (es.toList.map kc).Nodup) :
    Calls Tryz.prog 104 #[.map (some b)] w fun e w' => ∃ B, e = .returned (.slice (some ⟨B, 0, none⟩) es.size es.size) ∧ w.heap.size ≤ B ∧ Filled w' B es.size 24 (sortC (es.toList.map kc)) ∧ Below w.heap.size w w' := by
  obtain ⟨j0, hj, hy0, hy1, hy2⟩ := info_parts (P := Tryz.prog) (e := 24) (z := .agg #[.int .i64 0, .int .i64 0, .int .i64 0]) (size := 3) (bytes := 24) (by kernel_rfl)
  have hlen := run_len_map hb
  go_enter Tryz.func104, Tryz.ntmps104
  go_wp2_with (at_make; refine wpList_make_own _ rfl _ _ 22 rfl w.heap.size 24 j0 _ 3 Tryz.underlying22 hj hy0 hy1 .i64 .i64 _ es.size rfl rfl rfl ?d1 ?d2 ?d3 ?_)
  case d1 => rw [hy2]; omega
  case d2 => unfold maxLen; omega
  case d3 => exact Nat.le_refl _
  intro w1 hown hgrow
  have hbl : b < w.heap.size := (Array.getElem?_eq_some_iff.1 hb).1
  have hB1 : Below w.heap.size w w1 := (Below.refl _ _).grown hgrow (Nat.le_refl _) (fun k hk => by cases hk)
  have hb1 : w1.heap[b]? = some (.map es clock) := by rw [hB1.block b hbl]; exact hb
  have hrg := run_range_map hb1
  go_wp2
  have hrl : w.heap.size < w1.heap.size := by
    have := hown.lt w.heap.size rfl
    exact this.2
  go_loopw [3] (fun v wr => ∃ vis : List MapEntry, v = .slice (some ⟨w.heap.size, 0, none⟩) vis.length es.size ∧ wr.heap[w1.heap.size]? = some (.mapIter (some b) clock (vis.map (·.born)).toArray clock) ∧
      wr.ownsRow w.heap.size 24 3 v vis.length (flatC (vis.map kc)) ∧ Below w.heap.size w wr ∧ (∀ e ∈ vis, e ∈ es.toList) ∧ (vis.map (·.born)).Nodup) (fun v _ => es.size - sliceLen v)
  case atStart => 
    exact ⟨[], rfl, heap_alloc_new _ _, hown.alloc _, hB1.alloc (Nat.le_of_lt hrl) _, (fun e h => by cases h), List.nodup_nil⟩
  case round =>
    obtain ⟨vis, rfl, hr, hown', hBel, hsub, hvd⟩ := hrel
    have hbw : wr.heap[b]? = some (.map es clock) := by rw [hBel.block b hbl]; exact hb
    rcases run_next_at (P := Tryz.prog) wr 0 w1.heap.size b clock clock (vis.map (·.born)).toArray es clock hr hbw hborn (Nat.le_refl _) with ⟨h0, hnx⟩ | ⟨e, he, w2, hal, hnx⟩
    · have hall : ∀ x ∈ es.toList, x.born ∈ vis.map (·.born) := fun x hx => by
        have he : leftOf es (vis.map (·.born)).toArray = #[] := Array.eq_empty_of_size_eq_zero h0
        have := (Array.filter_eq_empty_iff.1 he) x (by simpa using hx)
        simpa using this
      have hlen' : vis.length = es.size := by
        have h1 := nodup_len hvd (m := es.toList.map (·.born)) (fun x hx => by
          obtain ⟨y, hy, rfl⟩ := List.mem_map.1 hx
          exact List.mem_map.2 ⟨y, hsub y hy, rfl⟩)
        have h2 := nodup_len hnd (m := vis.map (·.born)) (fun x hx => by
          obtain ⟨y, hy, rfl⟩ := List.mem_map.1 hx
          exact hall y hy)
        simp at h1 h2
        omega
      have hkn : (vis.map kc).Nodup := by
        rw [List.Nodup, List.pairwise_map] at hvd ⊢
        refine List.Pairwise.imp_of_mem (fun {a c} ha hc hne e => hne ?_) hvd
        rw [inj_of_nodup_map hkd a (hsub a ha) c (hsub c hc) e]
      have hperm : (vis.map kc).Perm (es.toList.map kc) := nodup_perm hkn (fun x hx => by
        obtain ⟨y, hy, rfl⟩ := List.mem_map.1 hx
        exact List.mem_map.2 ⟨y, hsub y hy, rfl⟩) (by simp [hlen'])
      have hso := sorted_ok (vis.map kc) w.heap.size 0 es.size wr (owns_row hown') (hown'.lt _ rfl).2 (by simp [hlen', hn]) hkn
      rw [sortC_perm hperm, List.length_map, hlen'] at hso
      rw [hlen'] at hown' ⊢
      clear hrg hlen hown hall hkn hperm hown'
      go_wp2_with (go_at_call 113; refine hso.mono ?_; rintro e w' ⟨B, rfl, hBB, hF, hB'⟩)
      go_ret
      exact ⟨B, rfl, Nat.le_trans hBel.size hBB, hF, hBel.trans (hB'.mono hBel.size)⟩
    · obtain ⟨w3, hw3⟩ : ∃ w3, w3 = ChangeMaps.setBlock w2 w1.heap.size (.mapIter (some b) clock ((vis.map (·.born)).toArray.push e.born) clock) := ⟨_, rfl⟩
      have hg3 : wr.grownBy w3 (some w1.heap.size) := by rw [hw3]; exact grown_setBlock hal _ _
      have hrlt : w1.heap.size < wr.heap.size := (Array.getElem?_eq_some_iff.1 hr).1
      have hr3 : w3.heap[w1.heap.size]? = some (.mapIter (some b) clock ((vis.map (·.born)).toArray.push e.born) clock) := by
        rw [hw3]
        have : w1.heap.size < w2.heap.size := by rcases hal with rfl | rfl <;> exact hrlt
        simp [ChangeMaps.setBlock, this]
      rw [← hw3] at hnx
      have hbr : b ≠ w1.heap.size := by omega
      have hb3 : w3.heap[b]? = some (.map es clock) := by
        rw [hg3.block b (by have := hBel.size; omega) (by simpa using hbr)]; exact hbw
      have hein : e ∈ es.toList := by
        have := he
        simp [leftOf] at this
        simpa using this.1
      have hent := run_entry_at (P := Tryz.prog) w3 w1.heap.size b clock (vis.map (·.born)).toArray es clock e hr3 hb3 hein hnd
      have hke := hk e hein
      rw [hke] at hnx hent
      unfold cellV at hnx hent
      have hown3 := hown'.kept hg3 (.inr (by simp only [Value.ownBlock]; simp; omega))
      have hB3 : Below w.heap.size w w3 := hBel.grown hg3 hBel.size (fun k hk => by cases hk; exact Nat.le_of_lt hrl)
      clear hrg hlen hown hal hw3 hke
      have hnew : e.born ∉ vis.map (·.born) := by
        have := he
        simp [leftOf] at this
        simpa using this.2
      have hvd' : ((vis ++ [e]).map (·.born)).Nodup := by
        rw [List.map_append, List.nodup_append]
        refine ⟨hvd, by simp, fun a ha b hb' => ?_⟩
        simp only [List.map_cons, List.map_nil, List.mem_singleton] at hb'
        subst hb'
        intro h
        subst h
        exact hnew ha
      have hsub' : ∀ x ∈ vis ++ [e], x ∈ es.toList := fun x hx => by
        rcases List.mem_append.1 hx with h | h
        · exact hsub x h
        · simp only [List.mem_singleton] at h; subst h; exact hein
      have hroom : vis.length + 1 ≤ es.size := by
        have := nodup_len hvd' (m := es.toList.map (·.born)) (fun x hx => by
          obtain ⟨y, hy, rfl⟩ := List.mem_map.1 hx
          exact List.mem_map.2 ⟨y, hsub' y hy, rfl⟩)
        simpa using this
      go_wp2_with (at_builtin; refine wpList_append_fits _ rfl _ _ 22 rfl w.heap.size 24 j0 3 Tryz.underlying22 hj hy1 w.heap.size vis.length es.size _ rfl ((hown3.alloc _).alloc _) ⟨w3.heap.size + 1, 0, none⟩ 1 1 (encC (kc e)) rfl rfl ?c1 ?c2 ?c3 ?_)
      case c1 =>
        intro j u hu
        match j, hu with
        | 0, hu => simp [encC] at hu; subst hu; go_simp
        | 1, hu => simp [encC] at hu; subst hu; go_simp
        | 2, hu => simp [encC] at hu; subst hu; go_simp
      case c2 => intro u hu; simp [encC] at hu; rcases hu with rfl | rfl | rfl <;> rfl
      case c3 => exact hroom
      intro w5 hown5 hg5
      go_wp2
      refine ⟨⟨vis ++ [e], by simp, ?_, ?_, ?_, hsub', hvd'⟩, ?_⟩
      · rw [hg5.block w1.heap.size (by have := hg3.size; simp; omega) (by simp; omega), Below.heap_alloc _ _ _ (by have := hg3.size; simp; omega), Below.heap_alloc _ _ _ (by have := hg3.size; omega), hr3]
        simp
      · rw [List.map_append, List.map_cons, List.map_nil, flatC_snoc, List.length_append]
        exact hown5
      · exact ((hB3.alloc hB3.size _).alloc (by have := hB3.size; simp; omega) _).grown hg5 (by have := hB3.size; simp; omega) (fun k hk => by cases hk; exact Nat.le_refl _)
      · simp [sliceLen]; omega
end Go.Proofs
end
