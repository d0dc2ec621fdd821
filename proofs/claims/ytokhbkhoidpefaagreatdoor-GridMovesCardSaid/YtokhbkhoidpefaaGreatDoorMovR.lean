import Derived.Test.YtokhbkhoidpefaaGreatDoorG3
import Derived.Test.YtokhbkhoidpefaaGreatDoorTurnZ
import Derived.Test.YtokhbkhoidpefaaGreatDoorTurned
section
/- Small functions of GridMoves: the reference's CheckVector, integer, three errors; grid.Twice's error way. -/
namespace Go.Proofs
open Go.RowKit
set_option maxHeartbeats 8000000
set_option maxRecDepth 1000000
theorem far2_ok (a : Int) (w : World) : Calls Tryz.prog 76 #[.int .i64 a, .int .i64 2000] w fun e w' => e = .returned (.bool (farB a 2000)) ∧ w' = w := by
  unfold farB
  go_enter Tryz.func76, Tryz.ntmps76
  go_wp2
  all_goals go_ret
  all_goals (refine ⟨?_, rfl⟩; simp_all <;> omega)
theorem vecI_far (c : Cel) : vecI c 2000 = if (farB c.1 2000 || (farB c.2.1 2000 || farB c.2.2 2000)) then 3 else 0 := by
  unfold vecI orI withinI farB
  by_cases h1 : c.1 < -2000 ∨ 2000 < c.1 <;> by_cases h2 : c.2.1 < -2000 ∨ 2000 < c.2.1 <;> by_cases h3 : c.2.2 < -2000 ∨ 2000 < c.2.2 <;> simp [h1, h2, h3]
theorem refVec_ok (x y z : Int) (w : World) :
    Calls Tryz.prog 15 #[.agg #[.int .i64 x, .int .i64 y, .int .i64 z]] w fun e w' => e = .returned (.int .i64 (vecI (x, y, z) 2000)) ∧ Below w.heap.size w w' := by
  rw [vecI_far]
  dsimp only
  cases hx : farB x 2000 with
  | true =>
    simp only [Bool.true_or, if_true]
    go_enter Tryz.func15, Tryz.ntmps15
    go_wp2_with (go_at_call 76; refine (far2_ok _ _).mono ?_; rintro e w' ⟨rfl, rfl⟩; simp only [hx])
    go_ret
    exact ⟨rfl, (Below.refl _ _).alloc (Nat.le_refl _) _⟩
  | false =>
    cases hy : farB y 2000 with
    | true =>
      simp only [Bool.false_or, Bool.true_or, if_true]
      go_enter Tryz.func15, Tryz.ntmps15
      go_wp2_with (go_at_call 76; refine (far2_ok _ _).mono ?_; rintro e w' ⟨rfl, rfl⟩; simp only [hx, hy])
      go_ret
      exact ⟨rfl, (Below.refl _ _).alloc (Nat.le_refl _) _⟩
    | false =>
      simp only [Bool.false_or]
      cases hz : farB z 2000 with
      | true =>
        simp only [if_true]
        go_enter Tryz.func15, Tryz.ntmps15
        go_wp2_with (go_at_call 76; refine (far2_ok _ _).mono ?_; rintro e w' ⟨rfl, rfl⟩; simp only [hx, hy, hz])
        go_ret
        exact ⟨rfl, (Below.refl _ _).alloc (Nat.le_refl _) _⟩
      | false =>
        simp only [Bool.false_eq_true, if_false]
        go_enter Tryz.func15, Tryz.ntmps15
        go_wp2_with (go_at_call 76; refine (far2_ok _ _).mono ?_; rintro e w' ⟨rfl, rfl⟩; simp only [hx, hy, hz])
        go_ret
        exact ⟨rfl, (Below.refl _ _).alloc (Nat.le_refl _) _⟩
theorem integer_bad (e : Int) (he : e ≠ 0) (w : World) :
    Calls Tryz.prog 23 #[.int .i64 0, .int .i64 e, .int .i64 e, .int .i64 0] w fun e w' => e = .returned (.bool true) ∧ w' = w := by
  have hne : (e != 0) = true := by simpa using he
  clear he
  go_enter Tryz.func23, Tryz.ntmps23
  go_wp2
  go_ret
  exact ⟨rfl, rfl⟩
theorem integer_same (n : Int) (w : World) :
    Calls Tryz.prog 23 #[.int .i64 n, .int .i64 0, .int .i64 0, .int .i64 n] w fun e w' => e = .returned (.bool true) ∧ w' = w := by
  go_enter Tryz.func23, Tryz.ntmps23
  go_wp2
  go_ret
  exact ⟨by simp, rfl⟩
theorem fst_or3 (a b c : Int) : fstI [a, b, c] = orI a b c := by
  unfold orI
  simp only [fstI]
  by_cases h1 : a = 0 <;> by_cases h2 : b = 0 <;> by_cases h3 : c = 0 <;> simp [h1, h2, h3]
theorem firstL3 (a b c : Int) (blk cap : Nat) (w : World) (h0 : w.cell? ⟨blk, 0, none⟩ = some (.int .i64 a)) (h1 : w.cell? ⟨blk, 1, none⟩ = some (.int .i64 b)) (h2 : w.cell? ⟨blk, 2, none⟩ = some (.int .i64 c)) :
    Calls Tryz.prog 14 #[.slice (some ⟨blk, 0, none⟩) 3 cap] w fun e w' => e = .returned (.int .i64 (fstI [a, b, c])) ∧ w' = w :=
  firstL_ok [a, b, c] blk cap w (by simp) fun k x hk => by
    match k, hk with
    | 0, hk => simp at hk; subst hk; exact h0
    | 1, hk => simp at hk; subst hk; exact h1
    | 2, hk => simp at hk; subst hk; exact h2
    | k + 3, hk => simp at hk
theorem twice_bad (m n : Int) (w : World) (a1 a2 : Int) (hw1 : withinI m 0 23 = a1) (hw2 : withinI n 0 23 = a2) (h0 : orI a1 a2 0 ≠ 0) :
    Calls Tryz.prog 12 #[.int .i64 m, .int .i64 n] w fun e w' => e = .returned (.tuple #[.int .i64 0, .int .i64 (orI a1 a2 0)]) ∧ Below w.heap.size w w' := by
  have hne : (orI a1 a2 0 != 0) = true := by rw [bne_iff_ne]; exact h0
  generalize hr : orI a1 a2 0 = r at hne ⊢
  clear h0
  have hf2 := fun blk W k0 k1 => first2_ok a1 a2 blk 2 W k0 k1
  rw [hr] at hf2
  have k1 := fun W => within_ok m 0 23 W
  have k2 := fun W => within_ok n 0 23 W
  rw [hw1] at k1
  rw [hw2] at k2
  clear hw1 hw2 hr
  go_enter Tryz.func12, Tryz.ntmps12
  go_wp2_with fail
  refine (k1 _).mono ?_
  rintro e w1 ⟨rfl, hw⟩
  subst hw
  go_wp2_with fail
  refine (k2 _).mono ?_
  rintro e w1 ⟨rfl, hw⟩
  subst hw
  go_wp2_with (go_at_call 63; refine (hf2 _ _ ?_ ?_).mono ?_; (go_simp); (go_simp); rintro e w4 ⟨rfl, hw4⟩; subst hw4)
  go_ret2
  exact ⟨rfl, (Below.refl _ _).alloc (Nat.le_refl _) _⟩
end Go.Proofs
end

section
/- Shift, Turn and Mirror beside the reference's: results in one form. -/
namespace Go.Proofs
open Go.RowKit
set_option maxHeartbeats 8000000
set_option maxRecDepth 1000000
/-- A result of the program, where r is wanted as its error, or l as its set. -/
def Res (w : World) (A : Option Addr) (n cap : Nat) (E r : Int) (l : List Cel) : Prop := (r ≠ 0 ∧ E = r ∧ n = 0) ∨ (r = 0 ∧ E = 0 ∧ n = l.length ∧ l.length ≤ 4096 ∧ Sl w (.slice A n cap) l)
theorem Res.below {w w' : World} {A : Option Addr} {n cap : Nat} {E r : Int} {l : List Cel} (h : Res w A n cap E r l) (hb : Below w.heap.size w w') : Res w' A n cap E r l := by
  rcases h with h | ⟨h1, h2, h3, h4, h5⟩
  · exact .inl h
  · exact .inr ⟨h1, h2, h3, h4, h5.below hb⟩
theorem cells_res {w : World} {A : Option Addr} {n cap : Nat} {E r : Int} {l : List Cel} {u : Value} {m : List Cel} (h : Res w A n cap E r l) (hu : Sl w u m) (hm : r = 0 → m = l) :
    Calls Tryz.prog 22 #[.slice A n cap, .int .i64 E, .int .i64 r, u] w fun e w' => e = .returned (.bool true) ∧ Below w.heap.size w w' := by
  rcases h with ⟨h1, rfl, rfl⟩ | ⟨h1, rfl, rfl, h4, h5⟩
  · obtain ⟨B, cb, rfl⟩ := hu.form
    refine (cells_bad A B cap cb _ _ h1 w).mono ?_
    rintro e w' ⟨rfl, rfl⟩
    exact ⟨rfl, Below.refl _ _⟩
  · obtain rfl := hm h1
    subst h1
    exact cells_same m _ _ w h5 hu h4
/-- A call gives such a result. -/
def Gets (W : World) (r : Int) (l : List Cel) (e : Ending) (W' : World) : Prop := ∃ (A : Option Addr) (n cap : Nat) (E : Int), e = .returned (.tuple #[.slice A n cap, .int .i64 E]) ∧ Res W' A n cap E r l ∧ Below W.heap.size W W'
theorem gets_bad {W W' : World} {r : Int} {l : List Cel} {e : Ending} (h0 : r ≠ 0) (h : e = .returned (.tuple #[.slice none 0 0, .int .i64 r]) ∧ Below W.heap.size W W') : Gets W r l e W' := ⟨none, 0, 0, r, h.1, .inl ⟨h0, rfl, rfl⟩, h.2⟩
theorem gets_fit {W W' : World} {l m : List Cel} {e : Ending} (hm : m.length = l.length) (hn : l.length ≤ 4096) (h : ∃ B, e = .returned (.tuple #[.slice (some ⟨B, 0, none⟩) l.length l.length, .int .i64 0]) ∧ W.heap.size ≤ B ∧ Filled W' B l.length 24 m ∧ Below W.heap.size W W') : Gets W 0 m e W' := by
  obtain ⟨B, rfl, hB, hF, hb⟩ := h
  have hs := (St.of_filled hF hm hn).1
  exact ⟨some ⟨B, 0, none⟩, l.length, l.length, 0, rfl, .inr ⟨rfl, rfl, hm.symm, by omega, hs⟩, hb⟩
/-- What the reference gives beside it. -/
def Refs (W : World) (r : Int) (l : List Cel) (e : Ending) (W' : World) : Prop := ∃ (v : Value) (m : List Cel), e = .returned v ∧ Sl W' v m ∧ m.length ≤ 4096 ∧ outI m = r ∧ (r = 0 → m = l) ∧ Below W.heap.size W W'
theorem outI_mem {l m : List Cel} (h : ∀ c, c ∈ m ↔ c ∈ l) : outI m = outI l := by
  have : m.any badC = l.any badC := by
    rw [Bool.eq_iff_iff, List.any_eq_true, List.any_eq_true]
    exact ⟨fun ⟨x, a, b⟩ => ⟨x, (h x).1 a, b⟩, fun ⟨x, a, b⟩ => ⟨x, (h x).2 a, b⟩⟩
  unfold outI
  rw [this]
theorem ascUp : ∀ {l : List Cel}, Asc l → Up l
  | [], _ => List.Pairwise.nil
  | [_], _ => List.pairwise_singleton _ _
  | x :: y :: l, h => by
    have hu : Up (y :: l) := ascUp fun i a b ha hb => h (i + 1) a b ha hb
    have hxy : ltC x y = true := (cmp3_lt x y).1 (h 0 x y rfl rfl)
    refine List.pairwise_cons.2 ⟨fun z hz => ?_, hu⟩
    rcases List.mem_cons.1 hz with rfl | hz
    · exact hxy
    · exact ltC_tr hxy ((List.pairwise_cons.1 hu).1 z hz)
theorem up_sortC {l : List Cel} (h : l.Nodup) : Up (sortC l) := ascUp (asc_sortC h)
theorem ref_up {l m : List Cel} (hl : l.Nodup) (hu : Up m) (hm : ∀ c, c ∈ m ↔ c ∈ l) : m = sortC l := up_ext hu (up_sortC hl) fun x => (hm x).trans mem_sortC.symm
theorem shiftC_lt (b p q : Cel) : ltC (shiftC b p) (shiftC b q) = ltC p q := by
  unfold ltC shiftC
  simp
theorem shift_res {l : List Cel} {v : Value} {b : Cel} {w : World} (hl : Sl w v l) (hc : chkI l = 0) (hv : vecI b 2000 = 0) {r : Int} (hr : outI (l.map (shiftC b)) = r) :
    Calls Tryz.prog 10 #[v, .agg #[.int .i64 b.1, .int .i64 b.2.1, .int .i64 b.2.2]] w fun e w' => Gets w r (sortC (l.map (shiftC b))) e w' := by
  by_cases h0 : r = 0
  · subst h0
    exact (shiftZ_fit l v b w hl hc hv hr).mono fun e w' h => gets_fit (by rw [sortC_len, List.length_map]) (chkI_zero.1 hc).1 h
  · exact (shiftZ_out l v b w hl hc hv r hr h0).mono fun e w' h => gets_bad h0 h
theorem shift_ref {l : List Cel} {v : Value} {b : Cel} {w : World} (hl : Sl w v l) (hc : chkI l = 0) (hv : vecI b 2000 = 0) {r : Int} (hr : outI (l.map (shiftC b)) = r) :
    Calls Tryz.prog 18 #[v, .agg #[.int .i64 b.1, .int .i64 b.2.1, .int .i64 b.2.2]] w fun e w' => Refs w r (sortC (l.map (shiftC b))) e w' := by
  obtain ⟨hn, hnear, hup⟩ := chkI_zero.1 hc
  have hb := vec_zero hv
  unfold Near at hb
  refine (refShift_ok l v b w hl (by omega) fun c hcm => ?_).mono ?_
  · have k := hnear c hcm
    unfold Near at k
    omega
  · rintro e w' ⟨v', rfl, ho, hB⟩
    have hu : Up (l.map (shiftC b)) := by
      unfold Up at hup ⊢
      rw [List.pairwise_map]
      exact hup.imp fun {p q} h => by rw [shiftC_lt]; exact h
    exact ⟨v', _, rfl, ho.sl, by rw [List.length_map]; exact hn, hr, fun _ => ref_up (nodup_map (shiftC_inj _) (up_nodup hup)) hu fun _ => Iff.rfl, hB⟩
theorem turn_res {l : List Cel} {v : Value} {n : Nat} (hn24 : n < 24) {o : Cel} {w : World} (hl : Sl w v l) (hc : chkI l = 0) (ho : vecI o 1000 = 0) {r : Int} (hr : outI (l.map (turnB n o)) = r) :
    Calls Tryz.prog 11 #[v, .int .i64 n, .agg #[.int .i64 o.1, .int .i64 o.2.1, .int .i64 o.2.2]] w fun e w' => Gets w r (sortC (l.map (turnB n o))) e w' := by
  by_cases h0 : r = 0
  · subst h0
    exact (turnZ_fit l v n hn24 o w hl hc ho hr).mono fun e w' h => gets_fit (by rw [sortC_len, List.length_map]) (chkI_zero.1 hc).1 h
  · exact (turnZ_out l v n hn24 o w hl hc ho r hr h0).mono fun e w' h => gets_bad h0 h
theorem turn_ref {l : List Cel} {v : Value} {n : Nat} (hn24 : n < 24) {o : Cel} {w : World} (hl : Sl w v l) (hc : chkI l = 0) (ho : vecI o 1000 = 0) {r : Int} (hr : outI (l.map (turnB n o)) = r) :
    Calls Tryz.prog 20 #[v, .int .i64 n, .agg #[.int .i64 o.1, .int .i64 o.2.1, .int .i64 o.2.2]] w fun e w' => Refs w r (sortC (l.map (turnB n o))) e w' := by
  obtain ⟨hn, hnear, hup⟩ := chkI_zero.1 hc
  refine (refTurn_ok l v n hn24 o.1 o.2.1 o.2.2 w hl (by omega) (vec_zero ho) hnear).mono ?_
  rintro e w' ⟨v', out, rfl, hO, hU, hM, hB⟩
  refine ⟨v', out, rfl, hO.sl, ?_, (outI_mem hM).trans hr, fun _ => ref_up (nodup_map (turnB_inj hn24 o) (up_nodup hup)) hU hM, hB⟩
  have := up_len_le hU fun x hx => (hM x).1 hx
  rw [List.length_map] at this
  omega
theorem mirror_res {l : List Cel} {v : Value} {j : Nat} (hj : j < 3) {t : Int} {w : World} (hl : Sl w v l) (hc : chkI l = 0) (ht : withinI t (-1000) 1000 = 0) {r : Int} (hr : outI (l.map (mirT j t)) = r) :
    Calls Tryz.prog 13 #[v, .int .i64 j, .int .i64 t] w fun e w' => Gets w r (sortC (l.map (mirT j t))) e w' := by
  have hlen : ∀ j, (sortC (l.map (mirT j t))).length = l.length := fun j => by rw [sortC_len, List.length_map]
  obtain rfl | rfl | rfl : j = 0 ∨ j = 1 ∨ j = 2 := by omega
  all_goals by_cases h0 : r = 0
  · subst h0
    exact (mirrorZ_fit0 l v t w hl hc ht hr).mono fun e w' h => gets_fit (hlen _) (chkI_zero.1 hc).1 h
  · exact (mirrorZ_out0 l v t w hl hc ht r hr h0).mono fun e w' h => gets_bad h0 h
  · subst h0
    exact (mirrorZ_fit1 l v t w hl hc ht hr).mono fun e w' h => gets_fit (hlen _) (chkI_zero.1 hc).1 h
  · exact (mirrorZ_out1 l v t w hl hc ht r hr h0).mono fun e w' h => gets_bad h0 h
  · subst h0
    exact (mirrorZ_fit2 l v t w hl hc ht hr).mono fun e w' h => gets_fit (hlen _) (chkI_zero.1 hc).1 h
  · exact (mirrorZ_out2 l v t w hl hc ht r hr h0).mono fun e w' h => gets_bad h0 h
theorem mirror_ref {l : List Cel} {v : Value} {j : Nat} (hj : j < 3) {t : Int} {w : World} (hl : Sl w v l) (hc : chkI l = 0) (ht : withinI t (-1000) 1000 = 0) {r : Int} (hr : outI (l.map (mirT j t)) = r) :
    Calls Tryz.prog 21 #[v, .int .i64 j, .int .i64 t] w fun e w' => Refs w r (sortC (l.map (mirT j t))) e w' := by
  obtain ⟨hn, hnear, hup⟩ := chkI_zero.1 hc
  have key : ∀ e w', (∃ v' out, e = .returned v' ∧ Own w' w.heap.size v' out ∧ Up out ∧ (∀ c, c ∈ out ↔ c ∈ l.map (mirT j t)) ∧ Below w.heap.size w w') → Refs w r (sortC (l.map (mirT j t))) e w' := by
    rintro e w' ⟨v', out, rfl, hO, hU, hM, hB⟩
    refine ⟨v', out, rfl, hO.sl, ?_, (outI_mem hM).trans hr, fun _ => ref_up (nodup_map (mirT_inj _ _) (up_nodup hup)) hU hM, hB⟩
    have := up_len_le hU fun x hx => (hM x).1 hx
    rw [List.length_map] at this
    omega
  have htn := within_zero ht
  obtain rfl | rfl | rfl : j = 0 ∨ j = 1 ∨ j = 2 := by omega
  · exact (refMirror_0 l v t w hl (by omega) htn hnear).mono key
  · exact (refMirror_1 l v t w hl (by omega) htn hnear).mono key
  · exact (refMirror_2 l v t w hl (by omega) htn hnear).mono key
end Go.Proofs
end
