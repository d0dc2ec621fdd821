import Derived.Test.YtpickbchpnbffaaGreatSortFunc
import Derived.Deep.QuietTactic
import Derived.BigQuiet
import Derived.Laws.StructEq
import Derived.Shelf.SlicesE.Kit
section
namespace Go.Proofs
open Go.Shelf Go.RowKit Go.Lib Go.Sort
set_option maxHeartbeats 4000000
set_option maxRecDepth 1000000

theorem Filled.cell {w : World} {B n : Nat} {T : TypeId} {l : List Cel} (h : Filled w B n T l) {i : Nat} {c : Cel} (hc : l[i]? = some c) :
    w.cell? ⟨B, i * 3, none⟩ = some (.int .i64 c.1) ∧ w.cell? ⟨B, i * 3 + 1, none⟩ = some (.int .i64 c.2.1) ∧ w.cell? ⟨B, i * 3 + 2, none⟩ = some (.int .i64 c.2.2) := by
  obtain ⟨arr, ha, has, hav⟩ := h
  obtain ⟨h0, h1, h2⟩ := hav i c hc
  exact ⟨by simp [World.cell?, ha, h0], by simp [World.cell?, ha, h1], by simp [World.cell?, ha, h2]⟩

theorem eqI194 (x y z x' y' z' : Int) (w : World) : (Op.equalIn 10000 128 (.agg #[.int .i64 x, .int .i64 y, .int .i64 z]) (.agg #[.int .i64 x', .int .i64 y', .int .i64 z'])).run Tryz.prog w = .ok (x == x' && (y == y' && z == z')) w := by
  have u3 := Tryz.underlying3
  have a3 := Tryz.isAgg3
  have z3 := Tryz.sizeOf3
  have hS : Tryz.prog.underlying 128 = some (.struct (Tryz.prog.fieldsOf 128)) := by kernel_rfl
  have hp : Tryz.prog.stoodInHeld 128 = false := by kernel_rfl
  rw [show (10000 : Nat) = 9999 + 1 from rfl, run_equalIn_agg w 9999 128 _ _ hS hp]
  simp only [Program.fieldsOf, Tryz.underlying128]
  go_simp
  by_cases h1 : x = x' <;> by_cases h2 : y = y' <;> by_cases h3 : z = z' <;> simp [h1, h2, h3]
theorem compact_ok (l : List Cel) (B cap : Nat) (w : World) (h : Filled w B l.length 128 l) (hn : l.length ≤ 4096) (hd : ∀ i a b, l[i]? = some a → l[i+1]? = some b → a ≠ b) :
    Calls Tryz.prog 93 #[.slice (some ⟨B, 0, none⟩) l.length cap] w fun e w' => e = .returned (.slice (some ⟨B, 0, none⟩) l.length cap) ∧ ∃ q, w' = w.drewN q := by
  go_enter Tryz.func93, Tryz.ntmps93
  go_wp2
  · go_ret
    exact ⟨rfl, 0, rfl⟩
  · go_loopw [3] (fun i wr => ∃ k q : Nat, 1 ≤ k ∧ k ≤ l.length ∧ i = .int .i64 k ∧ wr = w.drewN q) (fun i _ => l.length - (intOf i).toNat)
    case atStart => exact ⟨1, 0, Nat.le_refl _, by omega, rfl, rfl⟩
    case round =>
      obtain ⟨k, q, hk1, hk, rfl, rfl⟩ := hrel
      rcases Nat.lt_or_eq_of_le hk with hkn | rfl
      · obtain ⟨m, rfl⟩ : ∃ m, k = m + 1 := ⟨k - 1, by omega⟩
        obtain ⟨x, y, z, hc⟩ : ∃ x y z, l[m+1]? = some (x, y, z) := ⟨_, _, _, List.getElem?_eq_getElem hkn⟩
        obtain ⟨x', y', z', hc'⟩ : ∃ x y z, l[m]? = some (x, y, z) := ⟨_, _, _, List.getElem?_eq_getElem (by omega)⟩
        obtain ⟨a0, a1, a2⟩ := h.cell hc
        obtain ⟨b0, b1, b2⟩ := h.cell hc'
        have hne := hd m _ _ hc' hc
        have hne' : (x == x' && (y == y' && z == z')) = false := by
          simp only [ne_eq, Prod.mk.injEq, not_and] at hne
          simp only [Bool.and_eq_false_iff, beq_eq_false_iff_ne, ne_eq]
          omega
        have heq := fun W => eqI194 x y z x' y' z' W
        rw [hne'] at heq
        clear h hd hne hne'
        have i0 : (0 : Int) ≤ (m : Int) + 1 := by omega
        have i1 : (m : Int) + 1 < (l.length : Int) := by omega
        have i2 : (m : Int) < (l.length : Int) := by omega
        have i3 : ((m : Int) + 1).toNat = m + 1 := by omega
        have i4 : IntKind.i64.wrap (m : Int) = (m : Int) := by simp [IntKind.wrap, IntKind.bits, IntKind.signed]; omega
        go_wp2_with fail
        go_quiet (fail)
        go_wp2
        refine ⟨⟨m + 2, q + _, by omega, by omega, by rw [show ((m : Int) + 1 + 1) = ((m + 2 : Nat) : Int) by omega], rfl⟩, ?_⟩
        simp [intOf]; omega
      · clear h hd
        go_wp2
        go_ret
        exact ⟨rfl, q, rfl⟩
end Go.Proofs
end

section
namespace Go.Proofs
open Go.Shelf Go.RowKit Go.Lib Go.Sort
set_option maxHeartbeats 8000000
set_option maxRecDepth 1000000

theorem sortC_nodup {l : List Cel} (h : l.Nodup) : ∀ i a b, (sortC l)[i]? = some a → (sortC l)[i+1]? = some b → a ≠ b := by
  have hp : (sortC l).Perm l := List.mergeSort_perm _ _
  have hn : (sortC l).Nodup := hp.nodup_iff.2 h
  intro i a b ha hb e
  subst e
  have h1 := (List.getElem?_eq_some_iff.1 ha)
  have h2 := (List.getElem?_eq_some_iff.1 hb)
  obtain ⟨i1, e1⟩ := h1
  obtain ⟨i2, e2⟩ := h2
  have hpw : (sortC l).Pairwise (· ≠ ·) := hn
  exact (List.pairwise_iff_getElem.1 hpw i (i+1) i1 i2 (Nat.lt_succ_self i)) (e1.trans e2.symm)
theorem sortC_len (l : List Cel) : (sortC l).length = l.length := (List.mergeSort_perm _ _).length_eq

theorem made_filled {w w1 : World} {B0 n : Nat} {T : TypeId} {xs : List Value} {v : Value} (hv : v = .slice (some ⟨w.heap.size, 0, none⟩) n n) (hown : w1.ownsRow B0 T 3 v n xs) (l : List Cel) : Filled w1 w.heap.size n T (l.take 0) ∧ w.heap.size < w1.heap.size := by
  rcases hown.2 with ⟨h, _⟩ | ⟨g, c', cur, h, _, hg, _, _, hcs, _⟩
  · rw [hv] at h; cases h
  · rw [hv] at h
    simp only [Value.slice.injEq, Option.some.injEq, Addr.mk.injEq] at h
    obtain ⟨⟨rfl, _⟩, _, rfl⟩ := h
    exact ⟨⟨cur, hg, hcs, fun i c h => by simp at h⟩, (Array.getElem?_eq_some_iff.1 hg).1⟩
theorem Filled.lt {w : World} {B n : Nat} {T : TypeId} {l : List Cel} (h : Filled w B n T l) : B < w.heap.size := by
  obtain ⟨arr, ha, _⟩ := h
  exact (Array.getElem?_eq_some_iff.1 ha).1
theorem Filled.below {w w' : World} {B B' n : Nat} {T : TypeId} {l : List Cel} (h : Filled w B n T l) (hb : Below B' w w') (hB : B < B') : Filled w' B n T l := by
  obtain ⟨arr, ha, r⟩ := h
  exact ⟨arr, by rw [hb.block _ hB]; exact ha, r⟩
theorem Filled.row {w : World} {B n : Nat} {T : TypeId} {l : List Cel} (h : Filled w B n T l) : RowAt w B 0 l := fun i c hc => by
  have := h.cell hc
  simpa using this

theorem sorted_ok (l : List Cel) (blk off cap : Nat) (w : World) (hl : RowAt w blk off l) (hb : blk < w.heap.size) (hn : l.length ≤ 4096) (hnd : l.Nodup) :
    Calls Tryz.prog 74 #[.slice (some ⟨blk, off, none⟩) l.length cap] w fun e w' => ∃ B, e = .returned (.slice (some ⟨B, 0, none⟩) l.length l.length) ∧ w.heap.size ≤ B ∧ Filled w' B l.length 34 (sortC l) ∧ Below w.heap.size w w' := by
  obtain ⟨i0, hi, hz0, hz1, hz2⟩ := info_parts (P := Tryz.prog) (e := 128) (z := .agg #[.int .i64 0, .int .i64 0, .int .i64 0]) (size := 3) (bytes := 24) (by kernel_rfl)
  obtain ⟨j0, hj, hy0, hy1, hy2⟩ := info_parts (P := Tryz.prog) (e := 34) (z := .agg #[.int .i64 0, .int .i64 0, .int .i64 0]) (size := 3) (bytes := 24) (by kernel_rfl)
  go_enter Tryz.func74, Tryz.ntmps74
  go_wp2_with (at_make; refine wpList_make_full _ rfl _ _ 130 rfl w.heap.size 128 i0 _ 3 Tryz.underlying130 hi hz0 hz1 .i64 .i64 _ _ l.length rfl rfl rfl rfl ?c1 ?c2 ?c3 ?_)
  case c1 => rw [hz2]; omega
  case c2 => unfold maxLen; omega
  case c3 => exact Nat.le_refl _
  intro w1 hown hgrow
  have hF1 : Filled w1 w.heap.size l.length 128 (l.take 0) ∧ w.heap.size < w1.heap.size := by
    rcases hown.2 with ⟨hv, _⟩ | ⟨g, c', cur, hv, _, hg, _, _, hcs, _⟩
    · cases hv
    · simp only [Value.slice.injEq, Option.some.injEq, Addr.mk.injEq] at hv
      obtain ⟨⟨rfl, _⟩, _, rfl⟩ := hv
      refine ⟨⟨cur, hg, hcs, fun i c h => by simp at h⟩, ?_⟩
      exact (Array.getElem?_eq_some_iff.1 hg).1
  have hB1 : Below w.heap.size w w1 := (Below.refl _ _).grown hgrow (Nat.le_refl _) (fun k hk => by cases hk)
  clear hown hgrow
  go_wp2
  go_loopw [14] (fun i wr => ∃ k : Nat, k ≤ l.length ∧ i = .int .i64 k ∧ Filled wr w.heap.size l.length 128 (l.take k) ∧ w.heap.size < wr.heap.size ∧ Below w.heap.size w wr) (fun i _ => l.length - (intOf i).toNat)
  case atStart => exact ⟨0, Nat.zero_le _, rfl, hF1.1, hF1.2, hB1⟩
  case round =>
    obtain ⟨k, hk, rfl, hF, hlt, hBel⟩ := hrel
    rcases Nat.lt_or_eq_of_le hk with hkn | rfl
    · obtain ⟨x, y, z, hc⟩ : ∃ x y z, l[k]? = some (x, y, z) := ⟨_, _, _, List.getElem?_eq_getElem hkn⟩
      obtain ⟨r0, r1, r2⟩ := hl k _ hc
      rw [← hBel.cell (p := ⟨blk, off + k * 3, none⟩) hb] at r0
      rw [← hBel.cell (p := ⟨blk, off + k * 3 + 1, none⟩) hb] at r1
      rw [← hBel.cell (p := ⟨blk, off + k * 3 + 2, none⟩) hb] at r2
      have fz := hF.fz
      obtain ⟨v0, o0⟩ := hF.old (j := k * 3) (by omega)
      obtain ⟨v1, o1⟩ := hF.old (j := k * 3 + 1) (by omega)
      obtain ⟨v2, o2⟩ := hF.old (j := k * 3 + 2) (by omega)
      have hput := fun o => hF.put hkn hc o
      clear hB1 hF1 hl hF
      go_wp2
      refine ⟨⟨k + 1, hkn, rfl, hput _, by simp [World.setCell]; omega, below3 hBel (Nat.le_of_lt hlt) k _ _ _ _⟩, ?_⟩
      simp [intOf]; omega
    · clear hl hF1 hB1
      rw [List.take_length] at hF
      have hsf := sortFunc_ok l w.heap.size l.length wr hF (by omega)
      clear hF
      have hcp : ∀ W, Filled W w.heap.size l.length 128 (sortC l) → Calls Tryz.prog 93 #[.slice (some ⟨w.heap.size, 0, none⟩) l.length l.length] W fun e w' => e = .returned (.slice (some ⟨w.heap.size, 0, none⟩) l.length l.length) ∧ Filled w' w.heap.size l.length 128 (sortC l) ∧ Below w.heap.size W w' := fun W hW => by
        have := compact_ok (sortC l) w.heap.size l.length W (by rw [sortC_len]; exact hW) (by rw [sortC_len]; exact hn) (sortC_nodup hnd)
        rw [sortC_len] at this
        refine this.mono ?_
        rintro e w' ⟨rfl, q, rfl⟩
        exact ⟨rfl, hW, ⟨rfl, rfl, rfl, Nat.le_refl _, fun _ _ => rfl⟩⟩
      go_wp2_with (first
        | (go_at_call 92; refine hsf.mono ?_; rintro e w2 ⟨rfl, hF2, hB2⟩)
        | (go_at_call 93; refine (hcp _ hF2).mono ?_; rintro e w3 ⟨rfl, hF3, hB3⟩)
        | (at_make; refine wpList_make_full _ rfl _ _ 22 rfl w3.heap.size 34 j0 _ 3 Tryz.underlying22 hj hy0 hy1 .i64 .i64 _ _ l.length rfl rfl rfl rfl ?d1 ?d2 ?d3 ?_))
      case d1 => rw [hy2]; omega
      case d2 => unfold maxLen; omega
      case d3 => exact Nat.le_refl _
      intro w4 hown hgrow
      have hF4 := made_filled rfl hown (sortC l)
      have hB4 : Below w3.heap.size w3 w4 := (Below.refl _ _).grown hgrow (Nat.le_refl _) (fun k hk => by cases hk)
      have hB0 : Below w.heap.size w w3 := (hBel.trans hB2).trans hB3
      have hlt3 := hF3.lt
      clear hown hgrow hsf hcp hF2 hB2 hBel hlt hB3
      go_wp2
      go_loopw [33] (fun i wr => ∃ k : Nat, k ≤ l.length ∧ i = .int .i64 k ∧ Filled wr w3.heap.size l.length 34 ((sortC l).take k) ∧ w3.heap.size < wr.heap.size ∧ Below w3.heap.size w3 wr) (fun i _ => l.length - (intOf i).toNat)
      case atStart => exact ⟨0, Nat.zero_le _, rfl, hF4.1, hF4.2, hB4⟩
      case round =>
        obtain ⟨k, hk, rfl, hF, hlt, hBel⟩ := hrel
        rcases Nat.lt_or_eq_of_le hk with hkn | rfl
        · obtain ⟨x, y, z, hc⟩ : ∃ x y z, (sortC l)[k]? = some (x, y, z) := ⟨_, _, _, List.getElem?_eq_getElem (by rw [sortC_len]; exact hkn)⟩
          obtain ⟨r0, r1, r2⟩ := (hF3.below hBel hlt3).cell hc
          have fz := hF.fz
          obtain ⟨v0, o0⟩ := hF.old (j := k * 3) (by omega)
          obtain ⟨v1, o1⟩ := hF.old (j := k * 3 + 1) (by omega)
          obtain ⟨v2, o2⟩ := hF.old (j := k * 3 + 2) (by omega)
          have hput := fun o => hF.put hkn hc o
          clear hF hF3 hF4 hB4
          go_wp2
          refine ⟨⟨k + 1, hkn, rfl, hput _, by simp [World.setCell]; omega, below3 hBel (Nat.le_of_lt hlt) k _ _ _ _⟩, ?_⟩
          simp [intOf]; omega
        · rw [List.take_of_length_le (by rw [sortC_len]; exact Nat.le_refl _)] at hF
          clear hF3 hF4 hB4
          go_wp2
          go_ret
          exact ⟨_, rfl, Nat.le_of_lt hlt3, hF, hB0.trans (hBel.mono (Nat.le_of_lt hlt3))⟩
end Go.Proofs
end
