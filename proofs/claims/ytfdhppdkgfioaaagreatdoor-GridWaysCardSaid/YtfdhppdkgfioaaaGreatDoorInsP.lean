import Derived.Test.YtfdhppdkgfioaaaGreatDoorSl
section
/- The reference's CheckCells, for any list. -/
namespace Go.Proofs
open Go.RowKit
set_option maxHeartbeats 4000000
set_option maxRecDepth 1000000
def badC (c : Cel) : Bool := farB c.1 1000 || (farB c.2.1 1000 || farB c.2.2 1000)
theorem refCheckCellG (x y z : Int) (w : World) :
    Calls Tryz.prog 16 #[.agg #[.int .i64 x, .int .i64 y, .int .i64 z]] w fun e w' => e = .returned (.int .i64 (if badC (x, y, z) then 3 else 0)) ∧ Below w.heap.size w w' := by
  unfold badC
  dsimp only
  cases hx : farB x 1000 with
  | true =>
    simp only [Bool.true_or, if_true]
    go_enter Tryz.func16, Tryz.ntmps16
    go_wp2_with (go_at_call 60; refine (far_ok _ _).mono ?_; rintro e w' ⟨rfl, rfl⟩; simp only [hx])
    go_ret
    exact ⟨rfl, (Below.refl _ _).alloc (Nat.le_refl _) _⟩
  | false =>
    cases hy : farB y 1000 with
    | true =>
      simp only [Bool.false_or, Bool.true_or, if_true]
      go_enter Tryz.func16, Tryz.ntmps16
      go_wp2_with (go_at_call 60; refine (far_ok _ _).mono ?_; rintro e w' ⟨rfl, rfl⟩; simp only [hx, hy])
      go_ret
      exact ⟨rfl, (Below.refl _ _).alloc (Nat.le_refl _) _⟩
    | false =>
      simp only [Bool.false_or]
      cases hz : farB z 1000 with
      | true =>
        simp only [if_true]
        go_enter Tryz.func16, Tryz.ntmps16
        go_wp2_with (go_at_call 60; refine (far_ok _ _).mono ?_; rintro e w' ⟨rfl, rfl⟩; simp only [hx, hy, hz])
        go_ret
        exact ⟨rfl, (Below.refl _ _).alloc (Nat.le_refl _) _⟩
      | false =>
        simp only [Bool.false_eq_true, if_false]
        exact refCheckCell_ok x y z w hx hy hz
/-- The first error from a place on, behind a cell. -/
def chkFrom : Option Cel → List Cel → Int
  | _, [] => 0
  | p, c :: l => if badC c then 3 else if p.any (fun q => !ltC q c) then 11 else chkFrom (some c) l
def chkI (l : List Cel) : Int := if 4096 < l.length then 5 else chkFrom none l
def prevC (l : List Cel) (k : Nat) : Option Cel := if k = 0 then none else l[k-1]?
theorem chk_step {l : List Cel} {k : Nat} {c : Cel} (hc : l[k]? = some c) : chkFrom (prevC l k) (l.drop k) = if badC c then 3 else if (prevC l k).any (fun q => !ltC q c) then 11 else chkFrom (prevC l (k+1)) (l.drop (k+1)) := by
  obtain ⟨h1, h2⟩ := List.getElem?_eq_some_iff.1 hc
  rw [List.drop_eq_getElem_cons h1, h2]
  have e : prevC l (k+1) = some c := by unfold prevC; rw [if_neg (Nat.succ_ne_zero k), Nat.add_sub_cancel, hc]
  rw [e]
  rfl
theorem before_lt (a b : Cel) : decide (cmp3 a.1 a.2.1 a.2.2 b.1 b.2.1 b.2.2 < 0) = ltC a b := by
  cases h : ltC a b with
  | true => exact decide_eq_true ((cmp3_lt a b).2 h)
  | false => exact decide_eq_false fun e => by rw [(cmp3_lt a b).1 e] at h; cases h
theorem before_okL (x1 y1 z1 x2 y2 z2 : Int) (w : World) :
    Calls Tryz.prog 56 #[.agg #[.int .i64 x1, .int .i64 y1, .int .i64 z1], .agg #[.int .i64 x2, .int .i64 y2, .int .i64 z2]] w fun e w' => e = .returned (.bool (ltC (x1, y1, z1) (x2, y2, z2))) ∧ Below w.heap.size w w' := by
  have h := before_ok x1 y1 z1 x2 y2 z2 w
  have e := before_lt (x1, y1, z1) (x2, y2, z2)
  dsimp only at e
  rwa [e] at h
theorem refCheckG (l : List Cel) (v : Value) (w : World) (hl : Sl w v l) (hn : l.length ≤ maxLen) :
    Calls Tryz.prog 10 #[v] w fun e w' => e = .returned (.int .i64 (chkI l)) ∧ Below w.heap.size w w' := by
  unfold maxLen at hn
  rcases hl with ⟨rfl, rfl⟩ | ⟨a, cap, rfl, hl⟩
  · go_enter Tryz.func10, Tryz.ntmps10
    go_wp2
    go_loopw [3] (fun i wr => i = .int .i64 0 ∧ wr = w) (fun i _ => 0)
    case atStart => exact ⟨rfl, rfl⟩
    case round =>
      obtain ⟨rfl, rfl⟩ := hrel
      go_wp2
      go_ret
      exact ⟨rfl, Below.refl _ _⟩
  · by_cases h4 : 4096 < l.length
    · have hn' : (4096 : Int) < l.length := by omega
      have e : chkI l = 5 := by unfold chkI; rw [if_pos h4]
      rw [e]
      clear hl h4 e
      go_enter Tryz.func10, Tryz.ntmps10
      go_wp2
      go_ret
      exact ⟨rfl, Below.refl _ _⟩
    · have hn' : ¬ ((4096 : Int) < l.length) := by omega
      have e : chkI l = chkFrom (prevC l 0) (l.drop 0) := by unfold chkI; rw [if_neg h4]; rfl
      rw [e]
      clear e
      go_enter Tryz.func10, Tryz.ntmps10
      go_wp2
      go_loopw [3] (fun i wr => ∃ k : Nat, k ≤ l.length ∧ i = .int .i64 k ∧ Below w.heap.size w wr ∧ chkFrom (prevC l k) (l.drop k) = chkFrom (prevC l 0) (l.drop 0)) (fun i _ => l.length - (intOf i).toNat)
      case atStart => exact ⟨0, Nat.zero_le _, rfl, Below.refl _ _, rfl⟩
      case round =>
        obtain ⟨k, hk, rfl, hBel, hch⟩ := hrel
        rcases Nat.lt_or_eq_of_le hk with hkn | rfl
        · obtain ⟨b, o, x, y, z, rfl, hb, hc, r0, r1, r2⟩ := Sl.at_ hl hkn
          rw [chk_step hc] at hch
          have hv := fun W => refCheckCellG x y z W
          have hsz := hBel.size
          rw [← hBel.cell (p := ⟨b, _, none⟩) hb] at r0 r1 r2
          cases hbad : badC (x, y, z) with
          | true =>
            rw [hbad] at hch hv
            simp only [if_true] at hch hv
            have Hch := Lib.hid hch
            clear hl hbad hch
            go_wp2_with (go_at_call 16; refine (hv _).mono ?_; rintro e w2 ⟨rfl, hB2⟩)
            go_ret
            exact ⟨by rw [← Hch.out]; rfl, hBel.trans (hB2.mono hsz)⟩
          | false =>
            rw [hbad] at hch hv
            simp only [Bool.false_eq_true, if_false] at hch hv
            rcases Nat.eq_zero_or_pos k with rfl | hpos
            · have hp : prevC l 0 = none := rfl
              rw [hp] at hch
              simp only [Option.any_none, Bool.false_eq_true, if_false] at hch
              simp only [Nat.zero_mul, Nat.add_zero] at r0 r1 r2
              have Hch := Lib.hid hch
              clear hl hbad hch hp
              go_wp2_with (go_at_call 16; refine (hv _).mono ?_; rintro e w2 ⟨rfl, hB2⟩)
              have hB3 : Below w.heap.size w w2 := hBel.trans (hB2.mono hsz)
              clear hB2 hv hBel
              go_quiet (fail)
              go_wp2
              exact ⟨⟨1, hkn, rfl, ⟨hB3.os, hB3.tape, hB3.output, hB3.size, hB3.block⟩, Hch.out⟩, by simp [intOf]; omega⟩
            · obtain ⟨b', o', px, py, pz, e1, -, hp, q0, q1, q2⟩ := Sl.at_ hl (k := k - 1) (by omega)
              obtain ⟨rfl, rfl⟩ : b' = b ∧ o' = o := by injection e1 with e1 e2; exact ⟨e1.symm, e2.symm⟩
              have hpv : prevC l k = some (px, py, pz) := by unfold prevC; rw [if_neg (by omega)]; exact hp
              rw [hpv] at hch
              simp only [Option.any_some] at hch
              have hcm := fun W => before_okL px py pz x y z W
              have hkk : (k - 1) * 3 + 3 = k * 3 := by omega
              clear hl e1 hpv hbad
              have hlt' : b' < wr.heap.size := by omega
              go_wp2_with (go_at_call 16; refine (hv _).mono ?_; rintro e w2 ⟨rfl, hB2⟩)
              have hB3 : Below w.heap.size w w2 := hBel.trans (hB2.mono hsz)
              rw [← hB3.cell (p := ⟨b', _, none⟩) hb] at q0 q1 q2
              rw [← hB2.cell (p := ⟨b', _, none⟩) hlt'] at r0 r1 r2
              clear hB2 hv hBel
              have hw : IntKind.i64.wrap ((k : Int) - 1) = (k : Int) - 1 := wrapS (by omega)
              have hi0 : 1 ≤ (k : Int) := by omega
              have hi1 : (k : Int) - 1 < l.length := by omega
              have hit : ((k : Int) - 1).toNat = k - 1 := by omega
              have hd : decide ((0 : Int) < k) = true := by simp; omega
              cases hlt : ltC (px, py, pz) (x, y, z) with
              | true =>
                rw [hlt] at hcm
                simp only [hlt, Bool.not_true, Bool.false_eq_true, if_false] at hch
                have Hch := Lib.hid hch
                clear hlt hch
                go_still_tail 12, (by kernel_rfl)
                change wpList _ _ _ _ _ w2.drew
                have hB4 : Below w.heap.size w w2.drew := ⟨hB3.os, hB3.tape, hB3.output, hB3.size, hB3.block⟩
                clear q0 q1 q2 r0 r1 r2 hw hi0 hi1 hit hd hB3
                generalize w2.drew = w3 at hB4 ⊢
                go_wp2_with (go_at_call 56; refine (hcm _).mono ?_; rintro e w4 ⟨rfl, hB5⟩)
                exact ⟨⟨k + 1, hkn, rfl, hB4.trans (hB5.mono hB4.size), Hch.out⟩, by simp [intOf]; omega⟩
              | false =>
                rw [hlt] at hcm
                simp only [hlt, Bool.not_false, if_true] at hch
                have Hch := Lib.hid hch
                clear hlt hch
                go_still_tail 12, (by kernel_rfl)
                change wpList _ _ _ _ _ w2.drew
                have hB4 : Below w.heap.size w w2.drew := ⟨hB3.os, hB3.tape, hB3.output, hB3.size, hB3.block⟩
                clear q0 q1 q2 r0 r1 r2 hw hi0 hi1 hit hd hB3
                generalize w2.drew = w3 at hB4 ⊢
                go_wp2_with (go_at_call 56; refine (hcm _).mono ?_; rintro e w4 ⟨rfl, hB5⟩)
                go_ret
                exact ⟨by rw [← Hch.out]; rfl, hB4.trans (hB5.mono hB4.size)⟩
        · rw [List.drop_length] at hch
          have hch' : (0 : Int) = chkFrom (prevC l 0) (l.drop 0) := by rw [← hch]; cases prevC l l.length <;> rfl
          have Hch := Lib.hid hch'
          clear hl hch hch'
          go_wp2
          go_ret
          exact ⟨by rw [← Hch.out]; rfl, hBel⟩
end Go.Proofs
end

section
/- Insertion into an ascending list of cells: plain facts. -/
namespace Go.Proofs
/-- Ascending, each cell once. -/
def Up (l : List Cel) : Prop := l.Pairwise fun a b => ltC a b = true
theorem ltC_irr (a : Cel) : ltC a a = false := swoC.irrefl a
theorem ltC_tr {a b c : Cel} (h : ltC a b = true) (k : ltC b c = true) : ltC a c = true := swoC.trans a b c h k
theorem up_get {l : List Cel} (h : Up l) {i j : Nat} {a b : Cel} (hi : l[i]? = some a) (hj : l[j]? = some b) (hij : i < j) : ltC a b = true := by
  obtain ⟨i1, e1⟩ := List.getElem?_eq_some_iff.1 hi
  obtain ⟨i2, e2⟩ := List.getElem?_eq_some_iff.1 hj
  have := List.pairwise_iff_getElem.1 h i j i1 i2 hij
  rwa [e1, e2] at this
theorem up_insert {out : List Cel} {c : Cel} {j : Nat} (h : Up out) (hlo : ∀ i x, i < j → out[i]? = some x → ltC x c = true) (hhi : ∀ i x, j ≤ i → out[i]? = some x → ltC c x = true) : Up (out.take j ++ c :: out.drop j) := by
  refine List.pairwise_append.2 ⟨h.sublist (List.take_sublist _ _), List.pairwise_cons.2 ⟨fun x hx => ?_, h.sublist (List.drop_sublist _ _)⟩, fun a ha b hb => ?_⟩
  · obtain ⟨i, hi⟩ := List.mem_iff_getElem?.1 hx
    rw [List.getElem?_drop] at hi
    exact hhi _ x (Nat.le_add_right _ _) hi
  · obtain ⟨i, hi⟩ := List.mem_iff_getElem?.1 ha
    rw [List.getElem?_take] at hi
    split at hi
    · rename_i hij
      have h1 := hlo i a hij hi
      rcases List.mem_cons.1 hb with rfl | hb
      · exact h1
      · obtain ⟨k, hk⟩ := List.mem_iff_getElem?.1 hb
        rw [List.getElem?_drop] at hk
        exact ltC_tr h1 (hhi _ b (Nat.le_add_right _ _) hk)
    · cases hi
theorem mem_insert {out : List Cel} {c : Cel} {j : Nat} (x : Cel) : x ∈ out.take j ++ c :: out.drop j ↔ x = c ∨ x ∈ out := by
  have h : x ∈ out ↔ x ∈ out.take j ∨ x ∈ out.drop j := by rw [← List.mem_append, List.take_append_drop]
  rw [h, List.mem_append, List.mem_cons]
  constructor
  · rintro (h | h | h)
    · exact .inr (.inl h)
    · exact .inl h
    · exact .inr (.inr h)
  · rintro (h | h | h)
    · exact .inr (.inl h)
    · exact .inl h
    · exact .inr (.inr h)
theorem len_insert {out : List Cel} {c : Cel} {j : Nat} (hj : j ≤ out.length) : (out.take j ++ c :: out.drop j).length = out.length + 1 := by
  simp
  omega
theorem ins_get {out : List Cel} {x : Cel} {m : Nat} (hm : 0 < m) (hn : m ≤ out.length) : (out.take m ++ x :: out.drop m)[m-1]? = out[m-1]? := by
  rw [List.getElem?_append_left (by rw [List.length_take]; omega), List.getElem?_take, if_pos (by omega)]
theorem ins_set {out : List Cel} {x : Cel} (y : Cel) {m : Nat} (hn : m ≤ out.length) : (out.take m ++ x :: out.drop m).set m y = out.take m ++ y :: out.drop m := by
  have hl : (out.take m).length = m := by rw [List.length_take]; omega
  rw [List.set_append_right m y (by rw [hl]; exact Nat.le_refl _), hl, Nat.sub_self, List.set_cons_zero]
theorem ins_down {out : List Cel} {y : Cel} {m : Nat} (hm : 0 < m) (hy : out[m-1]? = some y) : out.take m ++ y :: out.drop m = out.take (m-1) ++ y :: out.drop (m-1) := by
  obtain ⟨h1, h2⟩ := List.getElem?_eq_some_iff.1 hy
  have e1 : out.take m = out.take (m-1) ++ [y] := by
    have : m = m - 1 + 1 := by omega
    rw [this, List.take_succ_eq_append_getElem h1, h2, Nat.add_sub_cancel]
  have e2 : out.drop (m-1) = y :: out.drop m := by
    rw [List.drop_eq_getElem_cons h1, h2, show m - 1 + 1 = m by omega]
  rw [e1, e2]
  simp
/-- Ascending lists with the same cells are the same. -/
theorem up_ext : ∀ {l m : List Cel}, Up l → Up m → (∀ x, x ∈ l ↔ x ∈ m) → l = m
  | [], [], _, _, _ => rfl
  | [], b :: m, _, _, h => by have := (h b).2 (by simp); cases this
  | a :: l, [], _, _, h => by have := (h a).1 (by simp); cases this
  | a :: l, b :: m, hl, hm, h => by
    obtain ⟨hl1, hl2⟩ := List.pairwise_cons.1 hl
    obtain ⟨hm1, hm2⟩ := List.pairwise_cons.1 hm
    have hab : a = b := by
      rcases List.mem_cons.1 ((h a).1 (by simp)) with e | e
      · exact e
      · rcases List.mem_cons.1 ((h b).2 (by simp)) with e' | e'
        · exact e'.symm
        · have := ltC_tr (hm1 a e) (hl1 b e')
          rw [ltC_irr] at this
          cases this
    subst hab
    rw [up_ext hl2 hm2 fun x => ?_]
    constructor
    · intro hx
      rcases List.mem_cons.1 ((h x).1 (by simp [hx])) with e | e
      · subst e
        have := hl1 x hx
        rw [ltC_irr] at this
        cases this
      · exact e
    · intro hx
      rcases List.mem_cons.1 ((h x).2 (by simp [hx])) with e | e
      · subst e
        have := hm1 x hx
        rw [ltC_irr] at this
        cases this
      · exact e
theorem up_nodup {l : List Cel} (h : Up l) : l.Nodup := List.Pairwise.imp (fun {a b} hl e => by
  subst e
  rw [ltC_irr] at hl
  cases hl) h
theorem up_len_le {l m : List Cel} (h : Up l) (hs : ∀ x ∈ l, x ∈ m) : l.length ≤ m.length := nodup_len (up_nodup h) hs
end Go.Proofs
end
