import Derived.Test.YtpjmobpmpghpeaaGreatDoorTakL
section
/- What is taken of batches: Taken of the program, with its errors. -/
namespace Go.Proofs
open Go.RowKit Go.MapKept
set_option maxHeartbeats 16000000
set_option maxRecDepth 1000000
theorem shFirst4L (a b c d : Int) (blk cap : Nat) (w : World) (h0 : w.cell? ⟨blk, 0, none⟩ = some (.int .i64 a)) (h1 : w.cell? ⟨blk, 1, none⟩ = some (.int .i64 b)) (h2 : w.cell? ⟨blk, 2, none⟩ = some (.int .i64 c)) (h3 : w.cell? ⟨blk, 3, none⟩ = some (.int .i64 d)) :
    Calls Tryz.prog 49 #[.slice (some ⟨blk, 0, none⟩) 4 cap] w fun e w' => e = .returned (.int .i64 (orL [a, b, c, d])) ∧ w' = w := by
  go_enter Tryz.func49, Tryz.ntmps49
  go_wp2
  refine wp_loop_rounds 5 ?_
  rw [rounds_succ]
  go_wp2
  all_goals (try (rw [rounds_succ]; go_wp2))
  all_goals (try (rw [rounds_succ]; go_wp2))
  all_goals (try (rw [rounds_succ]; go_wp2))
  all_goals (try (rw [rounds_succ]; go_wp2))
  all_goals go_ret
  all_goals (refine ⟨?_, rfl⟩; simp only [orL]; simp_all)
theorem shBatN_ok (v : Value) (l : List BatT) (n : Int) (w : World) (hl : SlF encB w v l) (hn : BatX l n) :
    Calls Tryz.prog 12 #[v] w fun e w' => e = .returned (.int .i64 n) ∧ Below w.heap.size w w' :=
  (shBatX_ok v l w hl).mono fun e w' ⟨n', he, h, hB⟩ => ⟨by rw [he, h.same hn], hB⟩
theorem refBatN_ok (v : Value) (l : List BatT) (n : Int) (w : World) (hl : SlF encB w v l) (hn : BatX l n) :
    Calls Tryz.prog 11 #[v] w fun e w' => e = .returned (.int .i64 n) ∧ Below w.heap.size w w' :=
  (refBatX_ok v l w hl).mono fun e w' ⟨n', he, h, hB⟩ => ⟨by rw [he, h.same hn], hB⟩
noncomputable def wishE (n : Int) (kind : ByteArray) (g0 day : Int) : Int := orL [n, nameE kind, withinI g0 0 999999999, withinI day 0 99999]
theorem takenErr_ok (v : Value) (l : List BatT) (n : Int) (kind : ByteArray) (g0 day : Int) (w : World) (hl : SlF encB w v l) (hn : BatX l n) (he : wishE n kind g0 day ≠ 0) :
    Calls Tryz.prog 10 #[v, .string kind, .int .i64 g0, .int .i64 day] w fun e w' => e = .returned (.tuple #[.slice none 0 0, .int .i64 (wishE n kind g0 day)]) ∧ Below w.heap.size w w' := by
  have kB := fun W (h : SlF encB W v l) => shBatN_ok v l n W h hn
  have kN : ∀ W, Calls Tryz.prog 50 #[.string kind] W fun e w' => e = .returned (.int .i64 (nameE kind)) ∧ Below W.heap.size W w' := fun W => shCheckNameX_ok kind W
  have kg := fun W => shWithin_ok g0 0 999999999 W
  have kd := fun W => shWithin_ok day 0 99999 W
  unfold wishE at he ⊢
  generalize nameE kind = e2 at kN he ⊢
  generalize withinI g0 0 999999999 = e3 at kg he ⊢
  generalize withinI day 0 99999 = e4 at kd he ⊢
  have ho := fun blk W => shFirst4L n e2 e3 e4 blk 4 W
  generalize orL [n, e2, e3, e4] = er at ho he ⊢
  have hre : (er != 0) = true := by simpa using he
  clear he hn
  obtain ⟨A, cap, rfl⟩ := hl.form
  go_enter Tryz.func10, Tryz.ntmps10
  go_wp2_with fail
  refine (kB _ hl).mono ?_
  rintro e w1 ⟨rfl, hB1⟩
  go_wp2_with fail
  refine (kN _).mono ?_
  rintro e w2 ⟨rfl, hB2⟩
  have hB := hB1.trans (hB2.mono hB1.size)
  have hBa := hB.alloc hB.size (.cells #[.int .i64 n, .int .i64 e2, .int .i64 e3, .int .i64 e4] 30)
  clear hB hB1 hB2 kB kN hl
  go_wp2_with (first
    | (go_at_call 51; (first | with_reducible refine (kg _).mono ?_ | with_reducible refine (kd _).mono ?_); rintro e w5 ⟨rfl, rfl⟩)
    | (go_at_call 49; refine (ho _ _ ?_ ?_ ?_ ?_).mono ?_; (go_simp); (go_simp); (go_simp); (go_simp); rintro e w5 ⟨rfl, rfl⟩))
  go_ret2
  exact ⟨rfl, hBa⟩
theorem takenAll_ok (v : Value) (l : List BatT) (n : Int) (kind : ByteArray) (g0 day : Int) (w : World) (hl : SlF encB w v l) (hn : BatX l n) (hs : l.length ≤ 12) (he : wishE n kind g0 day = 0) :
    Calls Tryz.prog 10 #[v, .string kind, .int .i64 g0, .int .i64 day] w fun e w' => (∃ u p, OrderS (l.map (·.2.2.2)) p ∧ ((0 < (runT l kind day p g0).2 ∧ e = .returned (.tuple #[.slice none 0 0, .int .i64 32])) ∨ (¬ 0 < (runT l kind day p g0).2 ∧ e = .returned (.tuple #[u, .int .i64 0]) ∧ OwnF encK 2 43 w' w.heap.size u (runT l kind day p g0).1))) ∧ Below w.heap.size w w' := by
  have h0 := orL_eq0.1 he
  have hn0 : n = 0 := h0 n (by simp)
  have hN0 : nameE kind = 0 := h0 (nameE kind) (by simp)
  have hg0 : withinI g0 0 999999999 = 0 := h0 (withinI g0 0 999999999) (by simp)
  have hd0 : withinI day 0 99999 = 0 := h0 (withinI day 0 99999) (by simp)
  subst hn0
  have kB := fun W (h : SlF encB W v l) => shBatN_ok v l 0 W h hn
  have kN : ∀ W, Calls Tryz.prog 50 #[.string kind] W fun e w' => e = .returned (.int .i64 (nameE kind)) ∧ Below W.heap.size W w' := fun W => shCheckNameX_ok kind W
  have kg := fun W => shWithin_ok g0 0 999999999 W
  have kd := fun W => shWithin_ok day 0 99999 W
  rw [hN0] at kN
  rw [hg0] at kg
  rw [hd0] at kd
  have kT := fun W (h : SlF encB W v l) => taken_ok v l kind g0 day W h hs hn.ok ((within_cases _ _ _).2.2.1 hg0)
  have ho := fun blk W => shFirst4L 0 0 0 0 blk 4 W
  rw [show orL [0, 0, 0, 0] = 0 from rfl] at ho
  clear he h0 hn hN0 hg0 hd0
  obtain ⟨A, cap, rfl⟩ := hl.form
  go_enter Tryz.func10, Tryz.ntmps10
  go_wp2_with fail
  refine (kB _ hl).mono ?_
  rintro e w1 ⟨rfl, hB1⟩
  go_wp2_with fail
  refine (kN _).mono ?_
  rintro e w2 ⟨rfl, hB2⟩
  have hB := hB1.trans (hB2.mono hB1.size)
  have hBa := hB.alloc hB.size (.cells #[.int .i64 0, .int .i64 0, .int .i64 0, .int .i64 0] 30)
  have hla := hl.below hBa
  clear hB hB1 hB2 kB kN hl
  go_wp2_with (first
    | (go_at_call 51; (first | with_reducible refine (kg _).mono ?_ | with_reducible refine (kd _).mono ?_); rintro e w5 ⟨rfl, rfl⟩)
    | (go_at_call 49; refine (ho _ _ ?_ ?_ ?_ ?_).mono ?_; (go_simp); (go_simp); (go_simp); (go_simp); rintro e w5 ⟨rfl, rfl⟩))
  refine (kT _ hla).mono ?_
  rintro e w6 ⟨⟨u, p, rfl, hp, hown⟩, hB6⟩
  have hB7 := hBa.trans (hB6.mono hBa.size)
  have HP := Lib.hid hp
  have HO := Lib.hid (hown.lower hBa.size)
  have HB := Lib.hid hB7
  generalize hr : runT l kind day p g0 = st at HO
  obtain ⟨T, g⟩ := st
  dsimp only at HO ⊢
  have HR := Lib.hid hr
  clear hr hp hown hB7 hB6 hBa hla kT kg kd ho
  by_cases hg : 0 < g
  · go_wp2
    go_ret2
    exact ⟨⟨u, p, HP.out, .inl ⟨by rw [HR.out]; exact hg, rfl⟩⟩, HB.out⟩
  · go_wp2
    go_ret2
    exact ⟨⟨u, p, HP.out, .inr ⟨by rw [HR.out]; exact hg, rfl, by rw [HR.out]; exact HO.out⟩⟩, HB.out⟩
end Go.Proofs
end

section
/- ShopTakes: what the law's walk needs, without a world or of maps with numbers. -/
namespace Go.Proofs
open Go.RowKit Go.MapKept
set_option maxHeartbeats 16000000
set_option maxRecDepth 1000000
theorem scanB_ex {α : Type} (l : List α) (E : Nat → α → Int) : ∀ k, PreE l E k ∨ ∃ e, ScanE l E e
  | 0 => .inl (PreE.zero l E)
  | k + 1 => by
    rcases scanB_ex l E k with h | h
    · cases hk : l[k]? with
      | none =>
        refine .inl fun j s hj hs => ?_
        rcases Nat.lt_or_eq_of_le (Nat.le_of_lt_succ hj) with h1 | rfl
        · exact h j s h1 hs
        · rw [hk] at hs
          cases hs
      | some t =>
        by_cases he : E k t = 0
        · exact .inl (h.step hk he)
        · exact .inr ⟨_, h.bad hk he⟩
    · exact .inr h
theorem batX_ex (l : List BatT) : ∃ n, BatX l n := by
  by_cases h3 : 256 < l.length
  · exact ⟨5, .inl ⟨h3, rfl⟩⟩
  · obtain ⟨e, he⟩ : ∃ e, ScanE l (batE l) e := by
      rcases scanB_ex l (batE l) l.length with h | h
      · exact ⟨0, h.done (Nat.le_refl _)⟩
      · exact h
    exact ⟨e, .inr ⟨by omega, he⟩⟩
theorem availSum_bd {l : List BatT} (kind : ByteArray) (day : Int) (hg : ∀ i, 0 ≤ gramsOf l i ∧ gramsOf l i ≤ 999999999) : ∀ p : List Nat, 0 ≤ availSum l kind day p ∧ availSum l kind day p ≤ (p.length : Int) * 999999999
  | [] => by simp [availSum]
  | i :: p => by
    have ih := availSum_bd kind day hg p
    have h1 := hg i
    have e : availSum l kind day (i :: p) = (if avail l kind day i then gramsOf l i else 0) + availSum l kind day p := by simp [availSum]
    rw [e, List.length_cons]
    split <;> omega
theorem avail_some {l : List BatT} {kind : ByteArray} {day : Int} {i : Nat} (h : avail l kind day i = true) : ∃ t, l[i]? = some t := by
  unfold avail at h
  cases hi : l[i]? with
  | none => rw [hi] at h; cases h
  | some t => exact ⟨t, rfl⟩
theorem take_new {T : List TakT} {k i : Nat} {y : Int} (hn : (T.map (·.1)).Nodup) (hk : T[k]? = some (i, y)) : i ∉ (T.take k).map (·.1) := fun hm => by
  obtain ⟨⟨i2, y2⟩, h1, h2⟩ := List.mem_map.1 hm
  obtain ⟨j, hj⟩ := List.mem_iff_getElem?.1 h1
  rw [List.getElem?_take] at hj
  split at hj
  · rename_i hjk
    dsimp only at h2
    subst h2
    have e1 : (T.map (·.1))[j]? = some i2 := by rw [List.getElem?_map, hj]; rfl
    have e2 : (T.map (·.1))[k]? = some i2 := by rw [List.getElem?_map, hk]; rfl
    obtain ⟨q1, f1⟩ := List.getElem?_eq_some_iff.1 e1
    obtain ⟨q2, f2⟩ := List.getElem?_eq_some_iff.1 e2
    have := (List.getElem_inj (h₀ := q1) (h₁ := q2) hn).1 (f1.trans f2.symm)
    omega
  · cases hj
theorem pair_at {T : List TakT} {R : TakT → TakT → Prop} (h : T.Pairwise R) {j k : Nat} {x y : TakT} (hjk : j < k) (hj : T[j]? = some x) (hk : T[k]? = some y) : R x y := by
  obtain ⟨q1, rfl⟩ := List.getElem?_eq_some_iff.1 hj
  obtain ⟨q2, rfl⟩ := List.getElem?_eq_some_iff.1 hk
  exact List.pairwise_iff_getElem.1 h j k q1 q2 hjk
theorem sum2_take {T : List TakT} (h : ∀ x ∈ T, 0 ≤ x.2 ∧ x.2 ≤ 999999999) : ∀ k : Nat, 0 ≤ sum2 (T.take k) ∧ sum2 (T.take k) ≤ (k : Int) * 999999999
  | 0 => by simp [sum2]
  | k + 1 => by
    have ih := sum2_take h k
    rw [List.take_add_one]
    cases hk : T[k]? with
    | none =>
      simp only [Option.toList_none, List.append_nil]
      omega
    | some x =>
      have h2 := h x (List.mem_of_getElem? hk)
      simp only [Option.toList_some, sum2, List.map_append, List.map_cons, List.map_nil, List.sum_append, List.sum_cons, List.sum_nil]
      unfold sum2 at ih
      omega
theorem sum2_bd {l : List BatT} {kind : ByteArray} {day g0 : Int} {done : List Nat} {st : List TakT × Int} (h : TInv l kind day g0 done st) (hok : BatsOk l) (k : Nat) : 0 ≤ sum2 (st.1.take k) ∧ sum2 (st.1.take k) ≤ (k : Int) * 999999999 :=
  sum2_take (fun x hx => by
    have h1 := h.at_ x hx
    have h2 := hok.grams x.1
    omega) k
/-- A map with just these numbers, each with the value true. -/
def IMX (w : World) (b : Nat) (l : List Nat) : Prop := ∃ es clock, w.heap[b]? = some (.map es clock) ∧ es.toList.map (·.key) = l.map (fun i : Nat => Value.int .i64 (i : Int)) ∧ ∀ e ∈ es.toList, e.val = .bool true
theorem IMX.made (w : World) : IMX (w.alloc (.map #[] 0)) w.heap.size [] := ⟨#[], 0, heap_alloc_new w _, rfl, fun e h => by simp at h⟩
theorem IMX.keep {w w' : World} {b : Nat} {l : List Nat} (h : IMX w b l) (hb : w'.heap[b]? = w.heap[b]?) : IMX w' b l := by
  obtain ⟨es, clock, h1, h2⟩ := h
  exact ⟨es, clock, hb.trans h1, h2⟩
theorem IMX.lt {w : World} {b : Nat} {l : List Nat} (h : IMX w b l) : b < w.heap.size := by
  obtain ⟨es, clock, h1, h2⟩ := h
  exact (Array.getElem?_eq_some_iff.1 h1).1
theorem findI_no (n : Nat) : ∀ (es : List MapEntry) (l : List Nat) (i : Nat), es.map (·.key) = l.map (fun i : Nat => Value.int .i64 (i : Int)) → n ∉ l → Instr.findNow (.int .i64) (.int .i64 (n : Int)) es i = some none
  | [], [], _, _, _ => rfl
  | e :: es, p :: l, i, h, hs => by
    simp only [List.map_cons, List.cons.injEq] at h
    have hne : n ≠ p := fun e => hs (by simp [e])
    have h1 : ((n : Int) == (p : Int)) = false := by simp; omega
    have ih := findI_no n es l (i + 1) h.2 (fun hm => hs (List.mem_cons_of_mem _ hm))
    simp [Instr.findNow, Instr.sameNow, h.1, h1, ih]
  | [], _ :: _, _, h, _ => by simp at h
  | _ :: _, [], _, h, _ => by simp at h
theorem findI_yes (n : Nat) : ∀ (es : List MapEntry) (l : List Nat) (i : Nat), es.map (·.key) = l.map (fun i : Nat => Value.int .i64 (i : Int)) → n ∈ l → ∃ j e, Instr.findNow (.int .i64) (.int .i64 (n : Int)) es i = some (some (j, e.val)) ∧ e ∈ es
  | [], [], _, _, hs => by simp at hs
  | e :: es, p :: l, i, h, hs => by
    simp only [List.map_cons, List.cons.injEq] at h
    by_cases hsp : n = p
    · subst hsp
      exact ⟨i, e, by simp [Instr.findNow, Instr.sameNow, h.1], List.mem_cons_self ..⟩
    · have h1 : ((n : Int) == (p : Int)) = false := by simp; omega
      obtain ⟨j, e', h2, h3⟩ := findI_yes n es l (i + 1) h.2 (by simpa [hsp] using hs)
      exact ⟨j, e', by simp [Instr.findNow, Instr.sameNow, h.1, h1, h2], List.mem_cons_of_mem _ h3⟩
  | [], _ :: _, _, h, _ => by simp at h
  | _ :: _, [], _, h, _ => by simp at h
theorem check_int (n : Int) (em : Bool) (w : World) : (Instr.checkKey em 10000 3 (.int .i64 n)).run Tryz.prog w = .ok () w := by
  change (Instr.checkKey em (9999 + 1) _ _).run _ _ = _
  unfold Instr.checkKey
  simp [run_underlying Tryz.underlying3]
theorem lookupI_no {w : World} {b : Nat} {l : List Nat} (h : IMX w b l) (n : Nat) (hs : n ∉ l) :
    (Instr.lookup 74 (.map (some b)) (.int .i64 (n : Int)) false).run Tryz.prog w = .ok (.bool false) w := by
  obtain ⟨es, clock, hb, hm, -⟩ := h
  have hf : (Instr.findKey 3 (.int .i64 (n : Int)) es.toList).run Tryz.prog w = .ok none w := run_findKey Tryz.underlying3 (findI_no n es.toList l 0 hm hs)
  have hz : (zeroValue 4).run Tryz.prog w = .ok (.bool false) w := by go_simp
  simp [Instr.lookup, run_underlying Tryz.underlying74, MapKept.run_getObj_map hb, check_int, hf, hz, Result.andThen]
theorem lookupI_yes {w : World} {b : Nat} {l : List Nat} (h : IMX w b l) (n : Nat) (hs : n ∈ l) :
    (Instr.lookup 74 (.map (some b)) (.int .i64 (n : Int)) false).run Tryz.prog w = .ok (.bool true) w := by
  obtain ⟨es, clock, hb, hm, ht⟩ := h
  obtain ⟨j, e, hj, hjl⟩ := findI_yes n es.toList l 0 hm hs
  have hf : (Instr.findKey 3 (.int .i64 (n : Int)) es.toList).run Tryz.prog w = .ok (some (j, e.val)) w := run_findKey Tryz.underlying3 hj
  have hv := ht e hjl
  simp [Instr.lookup, run_underlying Tryz.underlying74, MapKept.run_getObj_map hb, check_int, hf, Result.andThen, hv]
theorem updateI {w : World} {b : Nat} {l : List Nat} (h : IMX w b l) (n : Nat) (hs : n ∉ l) :
    ∃ w', (Instr.mapUpdate 74 (.map (some b)) (.int .i64 (n : Int)) (.bool true)).run Tryz.prog w = .ok () w' ∧ IMX w' b (l ++ [n]) ∧ w.grownBy w' (some b) := by
  obtain ⟨es, clock, hb, hm, ht⟩ := h
  have hf : (Instr.findKey 3 (.int .i64 (n : Int)) es.toList).run Tryz.prog w = .ok none w := run_findKey Tryz.underlying3 (findI_no n es.toList l 0 hm hs)
  refine ⟨_, by simp [Instr.mapUpdate, run_underlying Tryz.underlying74, MapKept.run_getObj_map hb, check_int, hf, Result.andThen, MapKept.run_setObj_map _ hb]; rfl, ⟨_, _, (heap_set hb).1, ?_, ?_⟩, grown_setBlockN (.inl rfl) b _⟩
  · simp [hm]
  · intro e he
    rw [Array.toList_push] at he
    rcases List.mem_append.1 he with h1 | h1
    · exact ht e h1
    · obtain rfl := List.mem_singleton.1 h1
      rfl
end Go.Proofs
end
