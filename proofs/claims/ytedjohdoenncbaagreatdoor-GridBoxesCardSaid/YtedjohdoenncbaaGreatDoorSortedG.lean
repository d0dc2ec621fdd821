import Derived.Test.YtedjohdoenncbaaGreatDoorCompact
import Derived.Test.YtedjohdoenncbaaGreatDoorUnionR
import Derived.Lib.SliceRun
import Derived.Lib.Hide
import Derived.Test.YtedjohdoenncbaaGreatDoorSorted
section
/- slices.Compact of a sorted list of places, cells more than once among them. -/
namespace Go.Proofs
open Go.Shelf Go.RowKit Go.Lib Go.Sort
set_option maxHeartbeats 8000000
set_option maxRecDepth 1000000
theorem Filled.store {w : World} {B n : Nat} {T : TypeId} {M : List Cel} (h : Filled w B n T M) {k : Nat} (hk : k < n) (x y z : Int) :
    Filled (((w.setCell ⟨B, k * 3, none⟩ (.int .i64 x)).setCell ⟨B, k * 3 + 1, none⟩ (.int .i64 y)).setCell ⟨B, k * 3 + 2, none⟩ (.int .i64 z)) B n T (M.set k (x, y, z)) := by
  obtain ⟨arr, ha, has, hav⟩ := h
  refine ⟨((arr.setIfInBounds (k * 3) (.int .i64 x)).setIfInBounds (k * 3 + 1) (.int .i64 y)).setIfInBounds (k * 3 + 2) (.int .i64 z), heap_setCell_same _ B (k * 3 + 2) _ T _ (heap_setCell_same _ B (k * 3 + 1) _ T _ (heap_setCell_same w B (k * 3) arr T _ ha)), by simp [has], fun i c hi => ?_⟩
  by_cases e : i = k
  · subst e
    have hl : i < M.length := by
      have := (List.getElem?_eq_some_iff.1 hi).1
      rwa [List.length_set] at this
    rw [List.getElem?_set_self hl] at hi
    obtain rfl := Option.some.inj hi
    refine ⟨?_, ?_, ?_⟩ <;> simp [Array.getElem?_setIfInBounds, has] <;> omega
  · rw [List.getElem?_set_ne (Ne.symm e)] at hi
    obtain ⟨h0, h1, h2⟩ := hav i c hi
    refine ⟨?_, ?_, ?_⟩
    · rw [Array.getElem?_setIfInBounds_ne (by omega), Array.getElem?_setIfInBounds_ne (by omega), Array.getElem?_setIfInBounds_ne (by omega)]; exact h0
    · rw [Array.getElem?_setIfInBounds_ne (by omega), Array.getElem?_setIfInBounds_ne (by omega), Array.getElem?_setIfInBounds_ne (by omega)]; exact h1
    · rw [Array.getElem?_setIfInBounds_ne (by omega), Array.getElem?_setIfInBounds_ne (by omega), Array.getElem?_setIfInBounds_ne (by omega)]; exact h2
theorem Filled.beyond {B n : Nat} {T : TypeId} {M : List Cel} : ∀ (vs : List Value) (o : Nat) (w : World), Filled w B n T M → M.length * 3 ≤ o → Filled (w.setCells B o vs) B n T M
  | [], _, _, h, _ => h
  | v :: vs, o, w, h, ho => by
    refine Filled.beyond vs (o + 1) (w.setCell ⟨B, o, none⟩ v) ?_ (by omega)
    obtain ⟨arr, ha, has, hav⟩ := h
    refine ⟨arr.setIfInBounds o v, heap_setCell_same w B o arr T v ha, by simp [has], fun i c hi => ?_⟩
    have hl := (List.getElem?_eq_some_iff.1 hi).1
    obtain ⟨h0, h1, h2⟩ := hav i c hi
    refine ⟨?_, ?_, ?_⟩
    · rw [Array.getElem?_setIfInBounds_ne (by omega)]; exact h0
    · rw [Array.getElem?_setIfInBounds_ne (by omega)]; exact h1
    · rw [Array.getElem?_setIfInBounds_ne (by omega)]; exact h2
theorem below_setCells {B : Nat} {a : World} {b : Nat} (hb : B ≤ b) : ∀ (vs : List Value) (o : Nat) (w : World), Below B a w → Below B a (w.setCells b o vs)
  | [], _, _, h => h
  | v :: vs, o, _, h => below_setCells hb vs (o + 1) _ (h.setCell (p := ⟨b, o, none⟩) hb v)
theorem Filled.take {w : World} {B n : Nat} {T : TypeId} {M : List Cel} (h : Filled w B n T M) (k : Nat) : Filled w B n T (M.take k) := by
  obtain ⟨arr, ha, has, hav⟩ := h
  refine ⟨arr, ha, has, fun i c hi => hav i c ?_⟩
  rw [List.getElem?_take] at hi
  split at hi
  · exact hi
  · cases hi
/-- clear, of a row of places. -/
theorem run_clear3 (w : World) (ty : TypeId) (b o n c : Nat) (hn : 0 < n) (hc : ∀ j, j < n * 3 → (w.cell? ⟨b, o + j, none⟩).isSome = true) (hf : ∀ j, w.frozen? ⟨b, o + j, none⟩ = false) :
    (Builtin.clear_ #[185] ty #[.slice (some ⟨b, o, none⟩) n c]).run Tryz.prog w = .ok (.tuple #[]) (w.setCells b o (List.replicate (n * 3) (.int .i64 0))) := by
  have hv : ∀ w, (zeroValue 183).run Tryz.prog w = .ok (.agg #[.int .i64 0, .int .i64 0, .int .i64 0]) w := fun w => by
    obtain ⟨i0, hi, hz0, hz1, hz2⟩ := info_parts (P := Tryz.prog) (e := 183) (z := .agg #[.int .i64 0, .int .i64 0, .int .i64 0]) (size := 3) (bytes := 24) (by kernel_rfl)
    simp [zeroValue, typeInfo, hi, hz0]
  have hzc : (Builtin.zeroCells (Value.agg #[.int .i64 0, .int .i64 0, .int .i64 0]).cells n).toList = List.replicate (n * 3) (.int .i64 0) := by
    show (Builtin.zeroCells #[Value.int .i64 0, .int .i64 0, .int .i64 0] n).toList = _
    simp [Builtin.zeroCells]
    apply List.ext_getElem
    · simp
    · intro i h1 h2
      have : i % 3 = 0 ∨ i % 3 = 1 ∨ i % 3 = 2 := by omega
      rcases this with h | h | h <;> simp [h]
  have hst := run_storeCells_cells (P := Tryz.prog) b o (List.replicate (n * 3) (.int .i64 0)) 0 w (by simpa using hc) (by intro j _; rw [Nat.add_zero]; exact hf j) (by intro v hv'; rw [List.eq_of_mem_replicate hv']; rfl)
  simp only [Nat.add_zero] at hst
  obtain ⟨m, rfl⟩ : ∃ m, n = m + 1 := ⟨n - 1, by omega⟩
  simp [Builtin.clear_, run_underlying Tryz.underlying185, hv, hzc, hst]
theorem wpList_clear_run {P : Program} (w : World) {ops : Array Oper} {rest : List Oper} {o : Oper} {a : Act} {Q : Exit → Act → World → Prop} (hgd : o.guard = none) (s : Operand) (t : TypeId)
    (ho : o.op = .call { callee := .builtin .clear, args := #[s], argTypes := #[t] }) (vs : Value) (hs : a.eval s = vs)
    (v' : Value) (w' : World) (hr : (Builtin.clear_ #[t] o.type #[vs]).run P w = .ok v' w') (h : wpList P ops Q rest (a.put o.dst v') w') : wpList P ops Q (o :: rest) a w :=
  wpList_plain hgd fun _ hK => by
    unfold Oper.wp execOp
    simp only [ho, resolve, invoke, builtin, Sem.run_bind, Sem.run_pure, Result.andThen_ok, List.map_toArray, List.map_cons, List.map_nil, hs, hr]
    exact hK _ _ h
theorem take_mem0 {l : List Cel} {k : Nat} {c : Cel} (hc : l[k]? = some c) (x : Cel) : x ∈ l.take (k + 1) ↔ x = c ∨ x ∈ l.take k := by
  obtain ⟨h1, h2⟩ := List.getElem?_eq_some_iff.1 hc
  rw [List.take_succ_eq_append_getElem h1, h2, List.mem_append, List.mem_singleton]
  exact Or.comm
theorem set_take {M : List Cel} {p : Nat} (c : Cel) (hp : p < M.length) : (M.set p c).take (p + 1) = M.take p ++ [c] := by
  rw [List.take_succ_eq_append_getElem (by rw [List.length_set]; exact hp), List.getElem_set_self, List.take_set_of_le (Nat.le_refl _)]
theorem up_snoc {P : List Cel} {c d : Cel} (h : Up P) (hd : P[P.length-1]? = some d) (hlt : ltC d c = true) : Up (P ++ [c]) := by
  refine List.pairwise_append.2 ⟨h, List.pairwise_singleton _ _, fun a ha b hb => ?_⟩
  obtain rfl := List.mem_singleton.1 hb
  obtain ⟨i, hi⟩ := List.mem_iff_getElem?.1 ha
  have hil := (List.getElem?_eq_some_iff.1 hi).1
  rcases Nat.lt_or_eq_of_le (Nat.le_sub_one_of_lt hil) with h1 | h1
  · exact ltC_tr (up_get h hi hd h1) hlt
  · subst h1
    rw [hi] at hd
    obtain rfl := Option.some.inj hd
    exact hlt
theorem compactG (l : List Cel) (B cap : Nat) (w : World) (h : Filled w B l.length 183 l) (hn : l.length ≤ 10000) (hcap : l.length ≤ cap) (hcm : cap ≤ 10000) (hs : ∀ i a b, l[i]? = some a → l[i+1]? = some b → ltC b a = false) :
    Calls Tryz.prog 146 #[.slice (some ⟨B, 0, none⟩) l.length cap] w fun e w' => ∃ out, e = .returned (.slice (some ⟨B, 0, none⟩) out.length cap) ∧ Filled w' B l.length 183 out ∧ Up out ∧ (∀ c, c ∈ out ↔ c ∈ l) ∧ Below B w w' := by
  go_enter Tryz.func146, Tryz.ntmps146
  go_wp2
  · go_ret
    refine ⟨l, rfl, h, ?_, fun _ => Iff.rfl, Below.refl _ _⟩
    match l, hn, hs with
    | [], _, _ => exact List.Pairwise.nil
    | [c], _, _ => exact List.pairwise_singleton _ _
    | a :: b :: l, _, _ => simp at *; omega
  · go_loopw [3] (fun i wr => ∃ k q : Nat, 1 ≤ k ∧ k ≤ l.length ∧ i = .int .i64 k ∧ wr = w.drewN q ∧ Up (l.take k)) (fun i _ => l.length - (intOf i).toNat)
    case atStart =>
      refine ⟨1, 0, Nat.le_refl _, by omega, rfl, rfl, ?_⟩
      match l with
      | [] => exact List.Pairwise.nil
      | c :: l => simp only [List.take_succ_cons, List.take_zero]; exact List.pairwise_singleton _ _
    case round =>
      obtain ⟨k, q, hk1, hk, rfl, rfl, hup⟩ := hrel
      rcases Nat.lt_or_eq_of_le hk with hkn | rfl
      · obtain ⟨x, y, z, hc⟩ : ∃ x y z, l[k]? = some (x, y, z) := ⟨_, _, _, List.getElem?_eq_getElem hkn⟩
        obtain ⟨x', y', z', hc'⟩ : ∃ x y z, l[k-1]? = some (x, y, z) := ⟨_, _, _, List.getElem?_eq_getElem (by omega)⟩
        have hle := hs (k - 1) _ _ hc' (by rw [show k - 1 + 1 = k by omega]; exact hc)
        obtain ⟨a0, a1, a2⟩ := h.cell hc
        obtain ⟨b0, b1, b2⟩ := h.cell hc'
        have heq := fun W => eqI194 x y z x' y' z' W
        have i0 : (0 : Int) ≤ (k : Int) := by omega
        have i1 : (k : Int) < (l.length : Int) := by omega
        have i2 : (k : Int) - 1 < (l.length : Int) := by omega
        have i3 : ((k : Int) - 1).toNat = k - 1 := by omega
        have i5 : 1 ≤ (k : Int) := by omega
        have i4 : IntKind.i64.wrap ((k : Int) - 1) = (k : Int) - 1 := by simp [IntKind.wrap, IntKind.bits, IntKind.signed]; omega
        have hkk : (k - 1) * 3 + 3 = k * 3 := by omega
        by_cases he : (x, y, z) = (x', y', z')
        · obtain ⟨rfl, rfl, rfl⟩ : x = x' ∧ y = y' ∧ z = z' := by simpa using he
          have hbq : (x == x && (y == y && z == z)) = true := by simp
          rw [hbq] at heq
          clear hbq he
          go_wp2_with fail
          go_quiet (fail)
          go_wp2_with fail
          rename Nat => q1
          have hF0 : Filled (w.drewN (q + q1)) B l.length 183 l := h
          have hB0 : Below B w (w.drewN (q + q1)) := ⟨rfl, rfl, rfl, Nat.le_refl _, fun _ _ => rfl⟩
          generalize w.drewN (q + q1) = w1 at hF0 hB0 ⊢
          clear a0 a1 a2 b0 b1 b2 heq i3 i4 h
          go_loopw [3, 5] (fun s t wr => ∃ (p m : Nat) (M : List Cel), s = .int .i64 p ∧ t = .int .i64 m ∧ 1 ≤ m ∧ m ≤ l.length - k ∧ k ≤ p ∧ p < k + m ∧ M.length = l.length ∧ Filled wr B l.length 183 M ∧ (∀ i, k + m ≤ i + 1 → M[i]? = l[i]?) ∧ Up (M.take p) ∧ (∀ c, c ∈ M.take p ↔ c ∈ l.take (k + m)) ∧ M[p-1]? = l[k+m-1]? ∧ Below B w wr) (fun _ t _ => l.length - (intOf t).toNat)
          case atStart =>
            refine ⟨k, 1, l, rfl, rfl, Nat.le_refl _, by omega, Nat.le_refl _, by omega, rfl, hF0, fun _ _ => rfl, hup, fun c => ?_, by rw [hc', Nat.add_sub_cancel, hc], hB0⟩
            rw [take_mem0 hc]
            exact ⟨.inr, fun e => e.elim (fun e => by subst e; exact List.mem_iff_getElem?.2 ⟨k - 1, by rw [List.getElem?_take, if_pos (by omega)]; exact hc'⟩) id⟩
          case round =>
            obtain ⟨p, m, M, rfl, rfl, hm1, hml, hpk, hpj, hMl, hF, hfar, hupM, hmem, hlast, hBel⟩ := hrel
            rename World => w2
            have fz := hF.fz
            have hp0 : (p : Int) < l.length := by omega
            rcases Nat.lt_or_eq_of_le hml with hmn | hme
            · obtain ⟨ux, uy, uz, hu⟩ : ∃ a b c, l[k+m]? = some (a, b, c) := ⟨_, _, _, List.getElem?_eq_getElem (by omega)⟩
              obtain ⟨vx, vy, vz, hv⟩ : ∃ a b c, l[k+m-1]? = some (a, b, c) := ⟨_, _, _, List.getElem?_eq_getElem (by omega)⟩
              have hle2 := hs (k + m - 1) _ _ hv (by rw [show k + m - 1 + 1 = k + m by omega]; exact hu)
              obtain ⟨a0, a1, a2⟩ := hF.cell ((hfar (k + m) (by omega)).trans hu)
              obtain ⟨b0, b1, b2⟩ := hF.cell ((hfar (k + m - 1) (by omega)).trans hv)
              rw [show (k + m) * 3 = k * 3 + m * 3 by omega] at a0 a1 a2
              rw [show (k + m - 1) * 3 = k * 3 + (m - 1) * 3 by omega] at b0 b1 b2
              dsimp only at a0 a1 a2 b0 b1 b2
              have heq := fun W => eqI194 ux uy uz vx vy vz W
              have j0 : (0 : Int) ≤ (m : Int) := by omega
              have j1 : (m : Int) < ((l.length - k : Nat) : Int) := by omega
              have j2 : (m : Int) - 1 < ((l.length - k : Nat) : Int) := by omega
              have j3 : ((m : Int) - 1).toNat = m - 1 := by omega
              have j5 : 1 ≤ (m : Int) := by omega
              have j4 : IntKind.i64.wrap ((m : Int) - 1) = (m : Int) - 1 := by simp [IntKind.wrap, IntKind.bits, IntKind.signed]; omega
              by_cases he : (ux, uy, uz) = (vx, vy, vz)
              · have hbq : (ux == vx && (uy == vy && uz == vz)) = true := by simpa using he
                rw [hbq] at heq
                clear hbq
                go_wp2_with fail
                go_quiet (fail)
                rename Nat => q2
                go_wp2
                refine ⟨⟨p, m + 1, M, rfl, rfl, by omega, by omega, hpk, by omega, hMl, hF, fun i hi => hfar i (by omega), hupM, fun c => ?_, ?_, ⟨hBel.os, hBel.tape, hBel.output, hBel.size, hBel.block⟩⟩, by simp [intOf]; omega⟩
                · rw [hmem, show k + (m + 1) = k + m + 1 by omega, take_mem0 hu]
                  exact ⟨.inr, fun e => e.elim (fun e => by subst e; rw [he]; exact List.mem_iff_getElem?.2 ⟨k + m - 1, by rw [List.getElem?_take, if_pos (by omega)]; exact hv⟩) id⟩
                · rw [hlast, hv, show k + (m + 1) - 1 = k + m by omega, hu, he]
              · have hbq : (ux == vx && (uy == vy && uz == vz)) = false := by
                  simp only [Bool.and_eq_false_iff, beq_eq_false_iff_ne, ne_eq]
                  simp only [Prod.mk.injEq] at he
                  omega
                rw [hbq] at heq
                have hlt : ltC (vx, vy, vz) (ux, uy, uz) = true := by
                  cases e : ltC (vx, vy, vz) (ux, uy, uz) with
                  | true => rfl
                  | false => exact absurd (antiC _ _ hle2 e) he
                obtain ⟨v0, o0⟩ := hF.old (j := p * 3) (by omega)
                obtain ⟨v1, o1⟩ := hF.old (j := p * 3 + 1) (by omega)
                obtain ⟨v2, o2⟩ := hF.old (j := p * 3 + 2) (by omega)
                have hst := hF.store (k := p) (by omega) ux uy uz
                clear hbq he
                go_wp2_with fail
                go_quiet (fail)
                rename Nat => q2
                go_wp2
                have hlP : (M.take p).length = p := by rw [List.length_take]; omega
                have hlast' : (M.take p)[(M.take p).length - 1]? = some (vx, vy, vz) := by
                  rw [hlP, List.getElem?_take, if_pos (by omega), hlast, hv]
                have hF' : Filled (w2.drewN q2) B l.length 183 M := hF
                have hB' : Below B w (w2.drewN q2) := ⟨hBel.os, hBel.tape, hBel.output, hBel.size, hBel.block⟩
                refine ⟨⟨p + 1, m + 1, M.set p (ux, uy, uz), rfl, rfl, by omega, by omega, by omega, by omega, by rw [List.length_set]; exact hMl, hF'.store (by omega) ux uy uz, fun i hi => ?_, ?_, fun c => ?_, ?_, ((hB'.setCell (p := ⟨B, p * 3, none⟩) (Nat.le_refl _) _).setCell (p := ⟨B, p * 3 + 1, none⟩) (Nat.le_refl _) _).setCell (p := ⟨B, p * 3 + 2, none⟩) (Nat.le_refl _) _⟩, by simp [intOf]; omega⟩
                · rw [List.getElem?_set_ne (by omega)]
                  exact hfar i (by omega)
                · rw [set_take _ (by omega)]
                  exact up_snoc hupM hlast' hlt
                · rw [set_take _ (by omega), List.mem_append, List.mem_singleton, hmem, show k + (m + 1) = k + m + 1 by omega, take_mem0 hu]
                  exact Or.comm
                · rw [Nat.add_sub_cancel, List.getElem?_set_self (by omega), show k + (m + 1) - 1 = k + m by omega, hu]
            · have hkm : k + m = l.length := by omega
              rw [hkm, List.take_length] at hmem
              have hclr := fun ty c => run_clear3 w2 ty B (p * 3) (l.length - p) c (by omega) (fun j hj => by
                obtain ⟨v, hv⟩ := hF.old (j := p * 3 + j) (by omega)
                rw [hv]
                rfl) (fun j => fz _)
              have hFc := (hF.take p).beyond (List.replicate ((l.length - p) * 3) (.int .i64 0)) (p * 3) w2
              have hlP : (M.take p).length = p := by rw [List.length_take]; omega
              rw [hlP] at hFc
              have hFc' := hFc (Nat.le_refl _)
              have hBc := below_setCells (b := B) (Nat.le_refl _) (List.replicate ((l.length - p) * 3) (.int .i64 0)) (p * 3) w2 hBel
              have hm' : ¬ ((m : Int) < ((l.length - k : Nat) : Int)) := by omega
              have hpc : (p : Int) ≤ cap := by omega
              clear hF hfar hlast fz hFc hBel
              go_wp2_with (with_reducible refine wpList_clear_run w2 rfl _ _ rfl _ rfl _ _ (hclr _ _) ?_)
              go_ret
              exact ⟨M.take p, by rw [hlP]; rfl, hFc', hupM, fun a b c => hmem _, hBc⟩
        · have hbq : (x == x' && (y == y' && z == z')) = false := by
            simp only [Bool.and_eq_false_iff, beq_eq_false_iff_ne, ne_eq]
            simp only [Prod.mk.injEq] at he
            omega
          rw [hbq] at heq
          have hlt : ltC (x', y', z') (x, y, z) = true := by
            cases e : ltC (x', y', z') (x, y, z) with
            | true => rfl
            | false => exact absurd (antiC _ _ hle e) he
          have hup' : Up (l.take (k + 1)) := by
            have e : l.take (k + 1) = l.take k ++ [(x, y, z)] := by
              obtain ⟨h1, h2⟩ := List.getElem?_eq_some_iff.1 hc
              rw [List.take_succ_eq_append_getElem h1, h2]
            rw [e]
            refine up_snoc hup ?_ hlt
            rw [List.length_take, Nat.min_eq_left (by omega), List.getElem?_take, if_pos (by omega)]
            exact hc'
          clear hbq he h
          go_wp2_with fail
          go_quiet (fail)
          rename Nat => q1
          go_wp2
          exact ⟨⟨k + 1, _, by omega, hkn, rfl, rfl, hup'⟩, by simp [intOf]; omega⟩
      · rw [List.take_length] at hup
        have h' : Filled (w.drewN q) B l.length 183 l := h
        have hB' : Below B w (w.drewN q) := ⟨rfl, rfl, rfl, Nat.le_refl _, fun _ _ => rfl⟩
        clear h hs
        go_wp2
        go_ret
        exact ⟨l, rfl, h', hup, fun _ => Iff.rfl, hB'⟩
end Go.Proofs
end

section
/- grid.sorted, for any list of cells. -/
namespace Go.Proofs
open Go.Shelf Go.RowKit Go.Lib Go.Sort
set_option maxHeartbeats 8000000
set_option maxRecDepth 1000000
theorem sortC_asc (l : List Cel) : ∀ i a b, (sortC l)[i]? = some a → (sortC l)[i+1]? = some b → ltC b a = false := by
  intro i a b ha hb
  have tr : ∀ a b c : Cel, (!ltC b a) = true → (!ltC c b) = true → (!ltC c a) = true := fun a b c h1 h2 => by
    simp only [Bool.not_eq_true'] at *
    exact swoC.ntrans c b a h2 h1
  have tot : ∀ a b : Cel, ((!ltC b a) || (!ltC a b)) = true := fun a b => by
    cases h1 : ltC b a with
    | false => rfl
    | true =>
      cases h2 : ltC a b with
      | false => rfl
      | true =>
        have := swoC.trans a b a h2 h1
        rw [swoC.irrefl] at this
        cases this
  have hp := List.pairwise_mergeSort (le := fun x y => !ltC y x) tr tot l
  obtain ⟨i1, e1⟩ := List.getElem?_eq_some_iff.1 ha
  obtain ⟨i2, e2⟩ := List.getElem?_eq_some_iff.1 hb
  have h1 := List.pairwise_iff_getElem.1 hp i (i+1) i1 i2 (Nat.lt_succ_self i)
  have e1' : (l.mergeSort fun x y => !ltC y x)[i] = a := e1
  have e2' : (l.mergeSort fun x y => !ltC y x)[i+1] = b := e2
  rw [e1', e2'] at h1
  simpa using h1
theorem sortedG (l : List Cel) (v : Value) (w : World) (hl : Sl w v l) (hn : l.length ≤ 10000) :
    Calls Tryz.prog 80 #[v] w fun e w' => ∃ B out, e = .returned (.slice (some ⟨B, 0, none⟩) out.length out.length) ∧ w.heap.size ≤ B ∧ Filled w' B out.length 38 out ∧ Up out ∧ (∀ c, c ∈ out ↔ c ∈ l) ∧ Below w.heap.size w w' := by
  obtain ⟨A, cap, rfl⟩ := hl.form
  obtain ⟨i0, hi, hz0, hz1, hz2⟩ := info_parts (P := Tryz.prog) (e := 183) (z := .agg #[.int .i64 0, .int .i64 0, .int .i64 0]) (size := 3) (bytes := 24) (by kernel_rfl)
  obtain ⟨j0, hj, hy0, hy1, hy2⟩ := info_parts (P := Tryz.prog) (e := 38) (z := .agg #[.int .i64 0, .int .i64 0, .int .i64 0]) (size := 3) (bytes := 24) (by kernel_rfl)
  go_enter Tryz.func80, Tryz.ntmps80
  go_wp2_with (at_make; refine wpList_make_full _ rfl _ _ 185 rfl w.heap.size 183 i0 _ 3 Tryz.underlying185 hi hz0 hz1 .i64 .i64 _ _ l.length rfl rfl rfl rfl ?c1 ?c2 ?c3 ?_)
  case c1 => rw [hz2]; omega
  case c2 => unfold maxLen; omega
  case c3 => exact Nat.le_refl _
  intro w1 hown hgrow
  have hF1 : Filled w1 w.heap.size l.length 183 (l.take 0) ∧ w.heap.size < w1.heap.size := by
    rcases hown.2 with ⟨hv, _⟩ | ⟨g, c', cur, hv, _, hg, _, _, hcs, _⟩
    · cases hv
    · simp only [Value.slice.injEq, Option.some.injEq, Addr.mk.injEq] at hv
      obtain ⟨⟨rfl, _⟩, _, rfl⟩ := hv
      refine ⟨⟨cur, hg, hcs, fun i c h => by simp at h⟩, ?_⟩
      exact (Array.getElem?_eq_some_iff.1 hg).1
  have hB1 : Below w.heap.size w w1 := (Below.refl _ _).grown hgrow (Nat.le_refl _) (fun k hk => by cases hk)
  clear hown hgrow
  go_wp2
  go_loopw [14] (fun i wr => ∃ k : Nat, k ≤ l.length ∧ i = .int .i64 k ∧ Filled wr w.heap.size l.length 183 (l.take k) ∧ w.heap.size < wr.heap.size ∧ Below w.heap.size w wr) (fun i _ => l.length - (intOf i).toNat)
  case atStart => exact ⟨0, Nat.zero_le _, rfl, hF1.1, hF1.2, hB1⟩
  case round =>
    obtain ⟨k, hk, rfl, hF, hlt, hBel⟩ := hrel
    rcases Nat.lt_or_eq_of_le hk with hkn | rfl
    · obtain ⟨blk, off, x, y, z, rfl, -, hb, hc, r0, r1, r2⟩ := hl.cells hkn
      rw [← hBel.cell (p := ⟨blk, off + k * 3, none⟩) hb] at r0
      rw [← hBel.cell (p := ⟨blk, off + k * 3 + 1, none⟩) hb] at r1
      rw [← hBel.cell (p := ⟨blk, off + k * 3 + 2, none⟩) hb] at r2
      have fz := hF.fz
      obtain ⟨v0, o0⟩ := hF.old (j := k * 3) (by omega)
      obtain ⟨v1, o1⟩ := hF.old (j := k * 3 + 1) (by omega)
      obtain ⟨v2, o2⟩ := hF.old (j := k * 3 + 2) (by omega)
      have hput := fun o => hF.put hkn hc o
      clear hB1 hF1 hl hF
      go_wp2
      refine ⟨⟨k + 1, hkn, rfl, hput _, by simp [World.setCell]; omega, below3 hBel (Nat.le_of_lt hlt) k _ _ _ _⟩, ?_⟩
      simp [intOf]; omega
    · clear hl hF1 hB1
      rw [List.take_length] at hF
      have hsf := sortFunc_ok l w.heap.size l.length wr hF (by omega)
      clear hF
      have hcp : ∀ W, Filled W w.heap.size l.length 183 (sortC l) → Calls Tryz.prog 146 #[.slice (some ⟨w.heap.size, 0, none⟩) l.length l.length] W fun e w' => ∃ out, e = .returned (.slice (some ⟨w.heap.size, 0, none⟩) out.length l.length) ∧ Filled w' w.heap.size l.length 183 out ∧ Up out ∧ (∀ c, c ∈ out ↔ c ∈ l) ∧ Below w.heap.size W w' := fun W hW => by
        have := compactG (sortC l) w.heap.size l.length W (by rw [sortC_len]; exact hW) (by rw [sortC_len]; exact hn) (by rw [sortC_len]; exact Nat.le_refl _) hn (sortC_asc l)
        rw [sortC_len] at this
        refine this.mono ?_
        rintro e w' ⟨out, h1, h2, h3, h4, h5⟩
        exact ⟨out, h1, h2, h3, fun c => (h4 c).trans (List.mergeSort_perm _ _).mem_iff, h5⟩
      go_wp2_with (first
        | (go_at_call 145; refine hsf.mono ?_; rintro e w2 ⟨rfl, hF2, hB2⟩)
        | (go_at_call 146; refine (hcp _ hF2).mono ?_; rintro e w3 ⟨out, rfl, hF3, hup, hmem, hB3⟩; have hol : out.length ≤ l.length := up_len_le hup (fun c hc => (hmem c).1 hc))
        | (at_make; refine wpList_make_full _ rfl _ _ 22 rfl w3.heap.size 38 j0 _ 3 Tryz.underlying22 hj hy0 hy1 .i64 .i64 _ _ out.length rfl rfl rfl rfl ?d1 ?d2 ?d3 ?_))
      case d1 => rw [hy2]; omega
      case d2 => unfold maxLen; omega
      case d3 => exact Nat.le_refl _
      intro w4 hown hgrow
      have hF4 := made_filled rfl hown out
      have hB4 : Below w3.heap.size w3 w4 := (Below.refl _ _).grown hgrow (Nat.le_refl _) (fun k hk => by cases hk)
      have hB0 : Below w.heap.size w w3 := (hBel.trans hB2).trans hB3
      have hlt3 := hF3.lt
      clear hown hgrow hsf hcp hF2 hB2 hBel hlt hB3
      go_wp2
      go_loopw [33] (fun i wr => ∃ k : Nat, k ≤ out.length ∧ i = .int .i64 k ∧ Filled wr w3.heap.size out.length 38 (out.take k) ∧ w3.heap.size < wr.heap.size ∧ Below w3.heap.size w3 wr) (fun i _ => out.length - (intOf i).toNat)
      case atStart => exact ⟨0, Nat.zero_le _, rfl, hF4.1, hF4.2, hB4⟩
      case round =>
        obtain ⟨k, hk, rfl, hF, hlt, hBel⟩ := hrel
        rcases Nat.lt_or_eq_of_le hk with hkn | rfl
        · obtain ⟨x, y, z, hc⟩ : ∃ x y z, out[k]? = some (x, y, z) := ⟨_, _, _, List.getElem?_eq_getElem hkn⟩
          obtain ⟨r0, r1, r2⟩ := (hF3.below hBel hlt3).cell hc
          have fz := hF.fz
          obtain ⟨v0, o0⟩ := hF.old (j := k * 3) (by omega)
          obtain ⟨v1, o1⟩ := hF.old (j := k * 3 + 1) (by omega)
          obtain ⟨v2, o2⟩ := hF.old (j := k * 3 + 2) (by omega)
          have hput := fun o => hF.put hkn hc o
          clear hF hF3 hF4 hB4
          go_wp2
          refine ⟨⟨k + 1, hkn, rfl, hput _, by simp [World.setCell]; omega, below3 hBel (Nat.le_of_lt hlt) k _ _ _ _⟩, ?_⟩
          simp [intOf]; omega
        · rw [List.take_length] at hF
          clear hF3 hF4 hB4
          go_wp2
          go_ret
          exact ⟨_, out, rfl, Nat.le_of_lt hlt3, hF, hup, hmem, hB0.trans (hBel.mono (Nat.le_of_lt hlt3))⟩
end Go.Proofs
end
