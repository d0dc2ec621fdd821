/- slices.Compact of a sorted list of places, cells more than once among them. -/
import Derived.Test.YtfdhppdkgfioaaaGreatDoorCells
import Derived.Test.YtfdhppdkgfioaaaGreatDoorInsP
import Derived.Lib.SliceRun
import Derived.Lib.Hide
namespace Go.Proofs
open Go.Shelf Go.RowKit Go.Lib Go.Sort
set_option maxHeartbeats 8000000
set_option maxRecDepth 1000000
theorem Filled.store {w : World} {B n : Nat} {T : TypeId} {M : List Cel} (h : Filled w B n T M) {k : Nat} (hk : k < n) (x y z : Int) :
    Filled (((w.setCell ⟨B, k * 3, none⟩ (.int .i64 x)).setCell ⟨B, k * 3 + 1, none⟩ (.int .i64 y)).setCell ⟨B, k * 3 + 2, none⟩ (.int .i64 z)) B n T (M.set k (x, y, z)) := by
  obtain ⟨arr, ha, has, hav⟩ := h
  refine ⟨((arr.setIfInBounds (k * 3) (.int .i64 x)).setIfInBounds (k * 3 + 1) (.int .i64 y)).setIfInBounds (k * 3 + 2) (.int .i64 z), heap_setCell_same _ B (k * 3 + 2) _ T _ (heap_setCell_same _ B (k * 3 + 1) _ T _ (heap_setCell_same w B (k * 3) arr T _ ha)), by simp [has], fun i c hi => ?_⟩
  by_cases e : i = k
  · subst e
    have hl : i < M.length := by
      have := (List.getElem?_eq_some_iff.1 hi).1
      rwa [List.length_set] at this
    rw [List.getElem?_set_self hl] at hi
    obtain rfl := Option.some.inj hi
    refine ⟨?_, ?_, ?_⟩ <;> simp [Array.getElem?_setIfInBounds, has] <;> omega
  · rw [List.getElem?_set_ne (Ne.symm e)] at hi
    obtain ⟨h0, h1, h2⟩ := hav i c hi
    refine ⟨?_, ?_, ?_⟩
    · rw [Array.getElem?_setIfInBounds_ne (by omega), Array.getElem?_setIfInBounds_ne (by omega), Array.getElem?_setIfInBounds_ne (by omega)]; exact h0
    · rw [Array.getElem?_setIfInBounds_ne (by omega), Array.getElem?_setIfInBounds_ne (by omega), Array.getElem?_setIfInBounds_ne (by omega)]; exact h1
    · rw [Array.getElem?_setIfInBounds_ne (by omega), Array.getElem?_setIfInBounds_ne (by omega), Array.getElem?_setIfInBounds_ne (by omega)]; exact h2
theorem Filled.beyond {B n : Nat} {T : TypeId} {M : List Cel} : ∀ (vs : List Value) (o : Nat) (w : World), Filled w B n T M → M.length * 3 ≤ o → Filled (w.setCells B o vs) B n T M
  | [], _, _, h, _ => h
  | v :: vs, o, w, h, ho => by
    refine Filled.beyond vs (o + 1) (w.setCell ⟨B, o, none⟩ v) ?_ (by omega)
    obtain ⟨arr, ha, has, hav⟩ := h
    refine ⟨arr.setIfInBounds o v, heap_setCell_same w B o arr T v ha, by simp [has], fun i c hi => ?_⟩
    have hl := (List.getElem?_eq_some_iff.1 hi).1
    obtain ⟨h0, h1, h2⟩ := hav i c hi
    refine ⟨?_, ?_, ?_⟩
    · rw [Array.getElem?_setIfInBounds_ne (by omega)]; exact h0
    · rw [Array.getElem?_setIfInBounds_ne (by omega)]; exact h1
    · rw [Array.getElem?_setIfInBounds_ne (by omega)]; exact h2
theorem below_setCells {B : Nat} {a : World} {b : Nat} (hb : B ≤ b) : ∀ (vs : List Value) (o : Nat) (w : World), Below B a w → Below B a (w.setCells b o vs)
  | [], _, _, h => h
  | v :: vs, o, _, h => below_setCells hb vs (o + 1) _ (h.setCell (p := ⟨b, o, none⟩) hb v)
theorem Filled.take {w : World} {B n : Nat} {T : TypeId} {M : List Cel} (h : Filled w B n T M) (k : Nat) : Filled w B n T (M.take k) := by
  obtain ⟨arr, ha, has, hav⟩ := h
  refine ⟨arr, ha, has, fun i c hi => hav i c ?_⟩
  rw [List.getElem?_take] at hi
  split at hi
  · exact hi
  · cases hi
/-- clear, of a row of places. -/
theorem run_clear3 (w : World) (ty : TypeId) (b o n c : Nat) (hn : 0 < n) (hc : ∀ j, j < n * 3 → (w.cell? ⟨b, o + j, none⟩).isSome = true) (hf : ∀ j, w.frozen? ⟨b, o + j, none⟩ = false) :
    (Builtin.clear_ #[205] ty #[.slice (some ⟨b, o, none⟩) n c]).run Tryz.prog w = .ok (.tuple #[]) (w.setCells b o (List.replicate (n * 3) (.int .i64 0))) := by
  have hv : ∀ w, (zeroValue 203).run Tryz.prog w = .ok (.agg #[.int .i64 0, .int .i64 0, .int .i64 0]) w := fun w => by
    obtain ⟨i0, hi, hz0, hz1, hz2⟩ := info_parts (P := Tryz.prog) (e := 203) (z := .agg #[.int .i64 0, .int .i64 0, .int .i64 0]) (size := 3) (bytes := 24) (by kernel_rfl)
    simp [zeroValue, typeInfo, hi, hz0]
  have hzc : (Builtin.zeroCells (Value.agg #[.int .i64 0, .int .i64 0, .int .i64 0]).cells n).toList = List.replicate (n * 3) (.int .i64 0) := by
    show (Builtin.zeroCells #[Value.int .i64 0, .int .i64 0, .int .i64 0] n).toList = _
    simp [Builtin.zeroCells]
    apply List.ext_getElem
    · simp
    · intro i h1 h2
      have : i % 3 = 0 ∨ i % 3 = 1 ∨ i % 3 = 2 := by omega
      rcases this with h | h | h <;> simp [h]
  have hst := run_storeCells_cells (P := Tryz.prog) b o (List.replicate (n * 3) (.int .i64 0)) 0 w (by simpa using hc) (by intro j _; rw [Nat.add_zero]; exact hf j) (by intro v hv'; rw [List.eq_of_mem_replicate hv']; rfl)
  simp only [Nat.add_zero] at hst
  obtain ⟨m, rfl⟩ : ∃ m, n = m + 1 := ⟨n - 1, by omega⟩
  simp [Builtin.clear_, run_underlying Tryz.underlying205, hv, hzc, hst]
theorem wpList_clear_run {P : Program} (w : World) {ops : Array Oper} {rest : List Oper} {o : Oper} {a : Act} {Q : Exit → Act → World → Prop} (hgd : o.guard = none) (s : Operand) (t : TypeId)
    (ho : o.op = .call { callee := .builtin .clear, args := #[s], argTypes := #[t] }) (vs : Value) (hs : a.eval s = vs)
    (v' : Value) (w' : World) (hr : (Builtin.clear_ #[t] o.type #[vs]).run P w = .ok v' w') (h : wpList P ops Q rest (a.put o.dst v') w') : wpList P ops Q (o :: rest) a w :=
  wpList_plain hgd fun _ hK => by
    unfold Oper.wp execOp
    simp only [ho, resolve, invoke, builtin, Sem.run_bind, Sem.run_pure, Result.andThen_ok, List.map_toArray, List.map_cons, List.map_nil, hs, hr]
    exact hK _ _ h
theorem take_mem0 {l : List Cel} {k : Nat} {c : Cel} (hc : l[k]? = some c) (x : Cel) : x ∈ l.take (k + 1) ↔ x = c ∨ x ∈ l.take k := by
  obtain ⟨h1, h2⟩ := List.getElem?_eq_some_iff.1 hc
  rw [List.take_succ_eq_append_getElem h1, h2, List.mem_append, List.mem_singleton]
  exact Or.comm
theorem set_take {M : List Cel} {p : Nat} (c : Cel) (hp : p < M.length) : (M.set p c).take (p + 1) = M.take p ++ [c] := by
  rw [List.take_succ_eq_append_getElem (by rw [List.length_set]; exact hp), List.getElem_set_self, List.take_set_of_le (Nat.le_refl _)]
theorem up_snoc {P : List Cel} {c d : Cel} (h : Up P) (hd : P[P.length-1]? = some d) (hlt : ltC d c = true) : Up (P ++ [c]) := by
  refine List.pairwise_append.2 ⟨h, List.pairwise_singleton _ _, fun a ha b hb => ?_⟩
  obtain rfl := List.mem_singleton.1 hb
  obtain ⟨i, hi⟩ := List.mem_iff_getElem?.1 ha
  have hil := (List.getElem?_eq_some_iff.1 hi).1
  rcases Nat.lt_or_eq_of_le (Nat.le_sub_one_of_lt hil) with h1 | h1
  · exact ltC_tr (up_get h hi hd h1) hlt
  · subst h1
    rw [hi] at hd
    obtain rfl := Option.some.inj hd
    exact hlt
theorem compactG (l : List Cel) (B cap : Nat) (w : World) (h : Filled w B l.length 203 l) (hn : l.length ≤ 10000) (hcap : l.length ≤ cap) (hcm : cap ≤ 10000) (hs : ∀ i a b, l[i]? = some a → l[i+1]? = some b → ltC b a = false) :
    Calls Tryz.prog 156 #[.slice (some ⟨B, 0, none⟩) l.length cap] w fun e w' => ∃ out, e = .returned (.slice (some ⟨B, 0, none⟩) out.length cap) ∧ Filled w' B l.length 203 out ∧ Up out ∧ (∀ c, c ∈ out ↔ c ∈ l) ∧ Below B w w' := by
  go_enter Tryz.func156, Tryz.ntmps156
  go_wp2
  · go_ret
    refine ⟨l, rfl, h, ?_, fun _ => Iff.rfl, Below.refl _ _⟩
    match l, hn, hs with
    | [], _, _ => exact List.Pairwise.nil
    | [c], _, _ => exact List.pairwise_singleton _ _
    | a :: b :: l, _, _ => simp at *; omega
  · go_loopw [3] (fun i wr => ∃ k q : Nat, 1 ≤ k ∧ k ≤ l.length ∧ i = .int .i64 k ∧ wr = w.drewN q ∧ Up (l.take k)) (fun i _ => l.length - (intOf i).toNat)
    case atStart =>
      refine ⟨1, 0, Nat.le_refl _, by omega, rfl, rfl, ?_⟩
      match l with
      | [] => exact List.Pairwise.nil
      | c :: l => simp only [List.take_succ_cons, List.take_zero]; exact List.pairwise_singleton _ _
    case round =>
      obtain ⟨k, q, hk1, hk, rfl, rfl, hup⟩ := hrel
      rcases Nat.lt_or_eq_of_le hk with hkn | rfl
      · obtain ⟨x, y, z, hc⟩ : ∃ x y z, l[k]? = some (x, y, z) := ⟨_, _, _, List.getElem?_eq_getElem hkn⟩
        obtain ⟨x', y', z', hc'⟩ : ∃ x y z, l[k-1]? = some (x, y, z) := ⟨_, _, _, List.getElem?_eq_getElem (by omega)⟩
        have hle := hs (k - 1) _ _ hc' (by rw [show k - 1 + 1 = k by omega]; exact hc)
        obtain ⟨a0, a1, a2⟩ := h.cell hc
        obtain ⟨b0, b1, b2⟩ := h.cell hc'
        have heq := fun W => eqI194 x y z x' y' z' W
        have i0 : (0 : Int) ≤ (k : Int) := by omega
        have i1 : (k : Int) < (l.length : Int) := by omega
        have i2 : (k : Int) - 1 < (l.length : Int) := by omega
        have i3 : ((k : Int) - 1).toNat = k - 1 := by omega
        have i5 : 1 ≤ (k : Int) := by omega
        have i4 : IntKind.i64.wrap ((k : Int) - 1) = (k : Int) - 1 := by simp [IntKind.wrap, IntKind.bits, IntKind.signed]; omega
        have hkk : (k - 1) * 3 + 3 = k * 3 := by omega
        by_cases he : (x, y, z) = (x', y', z')
        · obtain ⟨rfl, rfl, rfl⟩ : x = x' ∧ y = y' ∧ z = z' := by simpa using he
          have hbq : (x == x && (y == y && z == z)) = true := by simp
          rw [hbq] at heq
          clear hbq he
          go_wp2_with fail
          go_quiet (fail)
          go_wp2_with fail
          rename Nat => q1
          have hF0 : Filled (w.drewN (q + q1)) B l.length 203 l := h
          have hB0 : Below B w (w.drewN (q + q1)) := ⟨rfl, rfl, rfl, Nat.le_refl _, fun _ _ => rfl⟩
          generalize w.drewN (q + q1) = w1 at hF0 hB0 ⊢
          clear a0 a1 a2 b0 b1 b2 heq i3 i4 h
          go_loopw [3, 5] (fun s t wr => ∃ (p m : Nat) (M : List Cel), s = .int .i64 p ∧ t = .int .i64 m ∧ 1 ≤ m ∧ m ≤ l.length - k ∧ k ≤ p ∧ p < k + m ∧ M.length = l.length ∧ Filled wr B l.length 203 M ∧ (∀ i, k + m ≤ i + 1 → M[i]? = l[i]?) ∧ Up (M.take p) ∧ (∀ c, c ∈ M.take p ↔ c ∈ l.take (k + m)) ∧ M[p-1]? = l[k+m-1]? ∧ Below B w wr) (fun _ t _ => l.length - (intOf t).toNat)
          case atStart =>
            refine ⟨k, 1, l, rfl, rfl, Nat.le_refl _, by omega, Nat.le_refl _, by omega, rfl, hF0, fun _ _ => rfl, hup, fun c => ?_, by rw [hc', Nat.add_sub_cancel, hc], hB0⟩
            rw [take_mem0 hc]
            exact ⟨.inr, fun e => e.elim (fun e => by subst e; exact List.mem_iff_getElem?.2 ⟨k - 1, by rw [List.getElem?_take, if_pos (by omega)]; exact hc'⟩) id⟩
          case round =>
            obtain ⟨p, m, M, rfl, rfl, hm1, hml, hpk, hpj, hMl, hF, hfar, hupM, hmem, hlast, hBel⟩ := hrel
            rename World => w2
            have fz := hF.fz
            have hp0 : (p : Int) < l.length := by omega
            rcases Nat.lt_or_eq_of_le hml with hmn | hme
            · obtain ⟨ux, uy, uz, hu⟩ : ∃ a b c, l[k+m]? = some (a, b, c) := ⟨_, _, _, List.getElem?_eq_getElem (by omega)⟩
              obtain ⟨vx, vy, vz, hv⟩ : ∃ a b c, l[k+m-1]? = some (a, b, c) := ⟨_, _, _, List.getElem?_eq_getElem (by omega)⟩
              have hle2 := hs (k + m - 1) _ _ hv (by rw [show k + m - 1 + 1 = k + m by omega]; exact hu)
              obtain ⟨a0, a1, a2⟩ := hF.cell ((hfar (k + m) (by omega)).trans hu)
              obtain ⟨b0, b1, b2⟩ := hF.cell ((hfar (k + m - 1) (by omega)).trans hv)
              rw [show (k + m) * 3 = k * 3 + m * 3 by omega] at a0 a1 a2
              rw [show (k + m - 1) * 3 = k * 3 + (m - 1) * 3 by omega] at b0 b1 b2
              dsimp only at a0 a1 a2 b0 b1 b2
              have heq := fun W => eqI194 ux uy uz vx vy vz W
              have j0 : (0 : Int) ≤ (m : Int) := by omega
              have j1 : (m : Int) < ((l.length - k : Nat) : Int) := by omega
              have j2 : (m : Int) - 1 < ((l.length - k : Nat) : Int) := by omega
              have j3 : ((m : Int) - 1).toNat = m - 1 := by omega
              have j5 : 1 ≤ (m : Int) := by omega
              have j4 : IntKind.i64.wrap ((m : Int) - 1) = (m : Int) - 1 := by simp [IntKind.wrap, IntKind.bits, IntKind.signed]; omega
              by_cases he : (ux, uy, uz) = (vx, vy, vz)
              · have hbq : (ux == vx && (uy == vy && uz == vz)) = true := by simpa using he
                rw [hbq] at heq
                clear hbq
                go_wp2_with fail
                go_quiet (fail)
                rename Nat => q2
                go_wp2
                refine ⟨⟨p, m + 1, M, rfl, rfl, by omega, by omega, hpk, by omega, hMl, hF, fun i hi => hfar i (by omega), hupM, fun c => ?_, ?_, ⟨hBel.os, hBel.tape, hBel.output, hBel.size, hBel.block⟩⟩, by simp [intOf]; omega⟩
                · rw [hmem, show k + (m + 1) = k + m + 1 by omega, take_mem0 hu]
                  exact ⟨.inr, fun e => e.elim (fun e => by subst e; rw [he]; exact List.mem_iff_getElem?.2 ⟨k + m - 1, by rw [List.getElem?_take, if_pos (by omega)]; exact hv⟩) id⟩
                · rw [hlast, hv, show k + (m + 1) - 1 = k + m by omega, hu, he]
              · have hbq : (ux == vx && (uy == vy && uz == vz)) = false := by
                  simp only [Bool.and_eq_false_iff, beq_eq_false_iff_ne, ne_eq]
                  simp only [Prod.mk.injEq] at he
                  omega
                rw [hbq] at heq
                have hlt : ltC (vx, vy, vz) (ux, uy, uz) = true := by
                  cases e : ltC (vx, vy, vz) (ux, uy, uz) with
                  | true => rfl
                  | false => exact absurd (antiC _ _ hle2 e) he
                obtain ⟨v0, o0⟩ := hF.old (j := p * 3) (by omega)
                obtain ⟨v1, o1⟩ := hF.old (j := p * 3 + 1) (by omega)
                obtain ⟨v2, o2⟩ := hF.old (j := p * 3 + 2) (by omega)
                have hst := hF.store (k := p) (by omega) ux uy uz
                clear hbq he
                go_wp2_with fail
                go_quiet (fail)
                rename Nat => q2
                go_wp2
                have hlP : (M.take p).length = p := by rw [List.length_take]; omega
                have hlast' : (M.take p)[(M.take p).length - 1]? = some (vx, vy, vz) := by
                  rw [hlP, List.getElem?_take, if_pos (by omega), hlast, hv]
                have hF' : Filled (w2.drewN q2) B l.length 203 M := hF
                have hB' : Below B w (w2.drewN q2) := ⟨hBel.os, hBel.tape, hBel.output, hBel.size, hBel.block⟩
                refine ⟨⟨p + 1, m + 1, M.set p (ux, uy, uz), rfl, rfl, by omega, by omega, by omega, by omega, by rw [List.length_set]; exact hMl, hF'.store (by omega) ux uy uz, fun i hi => ?_, ?_, fun c => ?_, ?_, ((hB'.setCell (p := ⟨B, p * 3, none⟩) (Nat.le_refl _) _).setCell (p := ⟨B, p * 3 + 1, none⟩) (Nat.le_refl _) _).setCell (p := ⟨B, p * 3 + 2, none⟩) (Nat.le_refl _) _⟩, by simp [intOf]; omega⟩
                · rw [List.getElem?_set_ne (by omega)]
                  exact hfar i (by omega)
                · rw [set_take _ (by omega)]
                  exact up_snoc hupM hlast' hlt
                · rw [set_take _ (by omega), List.mem_append, List.mem_singleton, hmem, show k + (m + 1) = k + m + 1 by omega, take_mem0 hu]
                  exact Or.comm
                · rw [Nat.add_sub_cancel, List.getElem?_set_self (by omega), show k + (m + 1) - 1 = k + m by omega, hu]
            · have hkm : k + m = l.length := by omega
              rw [hkm, List.take_length] at hmem
              have hclr := fun ty c => run_clear3 w2 ty B (p * 3) (l.length - p) c (by omega) (fun j hj => by
                obtain ⟨v, hv⟩ := hF.old (j := p * 3 + j) (by omega)
                rw [hv]
                rfl) (fun j => fz _)
              have hFc := (hF.take p).beyond (List.replicate ((l.length - p) * 3) (.int .i64 0)) (p * 3) w2
              have hlP : (M.take p).length = p := by rw [List.length_take]; omega
              rw [hlP] at hFc
              have hFc' := hFc (Nat.le_refl _)
              have hBc := below_setCells (b := B) (Nat.le_refl _) (List.replicate ((l.length - p) * 3) (.int .i64 0)) (p * 3) w2 hBel
              have hm' : ¬ ((m : Int) < ((l.length - k : Nat) : Int)) := by omega
              have hpc : (p : Int) ≤ cap := by omega
              clear hF hfar hlast fz hFc hBel
              go_wp2_with (with_reducible refine wpList_clear_run w2 rfl _ _ rfl _ rfl _ _ (hclr _ _) ?_)
              go_ret
              exact ⟨M.take p, by rw [hlP]; rfl, hFc', hupM, fun a b c => hmem _, hBc⟩
        · have hbq : (x == x' && (y == y' && z == z')) = false := by
            simp only [Bool.and_eq_false_iff, beq_eq_false_iff_ne, ne_eq]
            simp only [Prod.mk.injEq] at he
            omega
          rw [hbq] at heq
          have hlt : ltC (x', y', z') (x, y, z) = true := by
            cases e : ltC (x', y', z') (x, y, z) with
            | true => rfl
            | false => exact absurd (antiC _ _ hle e) he
          have hup' : Up (l.take (k + 1)) := by
            have e : l.take (k + 1) = l.take k ++ [(x, y, z)] := by
              obtain ⟨h1, h2⟩ := List.getElem?_eq_some_iff.1 hc
              rw [List.take_succ_eq_append_getElem h1, h2]
            rw [e]
            refine up_snoc hup ?_ hlt
            rw [List.length_take, Nat.min_eq_left (by omega), List.getElem?_take, if_pos (by omega)]
            exact hc'
          clear hbq he h
          go_wp2_with fail
          go_quiet (fail)
          rename Nat => q1
          go_wp2
          exact ⟨⟨k + 1, _, by omega, hkn, rfl, rfl, hup'⟩, by simp [intOf]; omega⟩
      · rw [List.take_length] at hup
        have h' : Filled (w.drewN q) B l.length 203 l := h
        have hB' : Below B w (w.drewN q) := ⟨rfl, rfl, rfl, Nat.le_refl _, fun _ _ => rfl⟩
        clear h hs
        go_wp2
        go_ret
        exact ⟨l, rfl, h', hup, fun _ => Iff.rfl, hB'⟩
end Go.Proofs
