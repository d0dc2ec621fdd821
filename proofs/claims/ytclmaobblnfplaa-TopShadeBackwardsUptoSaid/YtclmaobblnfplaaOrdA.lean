/- Orders: what an order is, by the program and by the reference; lists that are the same. -/
import Derived.Test.YtclmaobblnfplaaOrdP
namespace Go.Proofs
open Go.RowKit Go.MapKept
set_option maxHeartbeats 16000000
set_option maxRecDepth 1000000
/-- An order of as many things as the list is long. -/
def IsOrd (o : List Int) : Prop := ∃ p : List Nat, o = ints p ∧ OrdN o.length p
theorem ints_len (p : List Nat) : (ints p).length = p.length := by simp [ints]
theorem ints_get {p : List Nat} {k : Nat} {x : Int} (h : (ints p)[k]? = some x) : ∃ i : Nat, p[k]? = some i ∧ x = i := by
  unfold ints at h
  rw [List.getElem?_map] at h
  obtain ⟨i, hi, rfl⟩ := Option.map_eq_some_iff.1 h
  exact ⟨i, hi, rfl⟩
theorem ints_toNat {o : List Int} (h : ∀ x ∈ o, 0 ≤ x) : o = ints (o.map Int.toNat) := by
  unfold ints
  rw [List.map_map]
  refine (List.map_id o).symm.trans (List.map_congr_left fun x hx => ?_)
  have := h x hx
  simp
  omega
theorem isOrd_mk {o : List Int} (h : ∀ x ∈ o, 0 ≤ x ∧ x < o.length) (hd : ∀ (i k : Nat) (x : Int), k < i → o[i]? = some x → o[k]? = some x → False) : IsOrd o := by
  refine ⟨o.map Int.toNat, ints_toNat fun x hx => (h x hx).1, ?_, fun i hi => ?_, by simp⟩
  · refine List.pairwise_iff_getElem.2 fun i k hi hk hlt e => ?_
    rw [List.getElem_map, List.getElem_map] at e
    rw [List.length_map] at hi hk
    have h1 := (h _ (List.getElem_mem hi)).1
    have h2 := (h _ (List.getElem_mem hk)).1
    have h3 : o[i] = o[k] := by omega
    exact hd k i o[i] hlt (by rw [h3]; exact List.getElem?_eq_getElem hk) (List.getElem?_eq_getElem hi)
  · obtain ⟨x, hx, rfl⟩ := List.mem_map.1 hi
    have := h x hx
    omega
theorem isOrd_in {o : List Int} (h : IsOrd o) : (∀ x ∈ o, 0 ≤ x ∧ x < o.length) ∧ (∀ (i k : Nat) (x : Int), k < i → o[i]? = some x → o[k]? = some x → False) ∧ ∀ i : Nat, i < o.length → (i : Int) ∈ o := by
  obtain ⟨p, e, hp⟩ := h
  rw [e] at hp ⊢
  rw [ints_len] at hp ⊢
  refine ⟨fun x hx => ?_, fun i k x hki hi hk => ?_, fun i hi => ?_⟩
  · obtain ⟨k, hk⟩ := List.mem_iff_getElem?.1 hx
    obtain ⟨i, hi, rfl⟩ := ints_get hk
    have := hp.lt i (List.mem_of_getElem? hi)
    omega
  · obtain ⟨a, ha, rfl⟩ := ints_get hi
    obtain ⟨b, hb, e2⟩ := ints_get hk
    obtain rfl : a = b := by omega
    have := nodup_inj hp.nd ha hb
    omega
  · obtain ⟨k, hk⟩ := hp.all hi
    exact mem_ints.2 (List.mem_of_getElem? hk)
theorem isOrd_of_all {o : List Int} (h : ∀ i : Nat, i < o.length → (i : Int) ∈ o) : IsOrd o := by
  have hn : (ints (List.range o.length)).Nodup := by
    unfold ints
    refine List.pairwise_map.2 ((List.nodup_range (n := o.length)).imp fun {a b} hab e => hab ?_)
    omega
  have hperm : (ints (List.range o.length)).Perm o := by
    have key : ∀ {l m : List Int}, l.Nodup → (∀ x ∈ l, x ∈ m) → m.length ≤ l.length → l.Perm m := by
      intro l
      induction l with
      | nil =>
        intro m _ _ h
        have : m = [] := List.eq_nil_of_length_eq_zero (Nat.le_zero.1 h)
        rw [this]
      | cons x l ih =>
        intro m hn hs h
        rw [List.nodup_cons] at hn
        have hx : x ∈ m := hs x List.mem_cons_self
        have h3 := ih (m := m.erase x) hn.2 (fun y hy => (List.mem_erase_of_ne (fun e : y = x => hn.1 (by rw [← e]; exact hy))).2 (hs y (List.mem_cons_of_mem _ hy)))
          (by rw [List.length_erase_of_mem hx]; simp only [List.length_cons] at h; omega)
        exact (h3.cons x).trans (List.perm_cons_erase hx).symm
    refine key hn (fun x hx => ?_) (by rw [ints_len, List.length_range]; exact Nat.le_refl _)
    obtain ⟨k, hk⟩ := List.mem_iff_getElem?.1 hx
    obtain ⟨i, hi, rfl⟩ := ints_get hk
    exact h i (List.mem_range.1 (List.mem_of_getElem? hi))
  refine isOrd_mk (fun x hx => ?_) fun i k x hki hi hk => ?_
  · obtain ⟨q, hq⟩ := List.mem_iff_getElem?.1 (hperm.mem_iff.2 hx)
    obtain ⟨i, hi, rfl⟩ := ints_get hq
    have := List.mem_range.1 (List.mem_of_getElem? hi)
    omega
  · have hno := hperm.nodup_iff.1 hn
    obtain ⟨h1, h2⟩ := List.getElem?_eq_some_iff.1 hi
    obtain ⟨h3, h4⟩ := List.getElem?_eq_some_iff.1 hk
    have := List.pairwise_iff_getElem.1 hno k i h3 h1 hki
    rw [h2, h4] at this
    exact this rfl
/-- The error of an order of n jobs. -/
def OrdX (o : List Int) (n : Nat) (e : Int) : Prop := (o.length ≠ n ∧ e = 2) ∨ (o.length = n ∧ ((IsOrd o ∧ e = 0) ∨ (¬ IsOrd o ∧ e = 11)))
theorem OrdX.same {o : List Int} {n : Nat} {e e' : Int} (h : OrdX o n e) (h' : OrdX o n e') : e = e' := by
  rcases h with ⟨h1, rfl⟩ | ⟨h1, ⟨h2, rfl⟩ | ⟨h2, rfl⟩⟩ <;> rcases h' with ⟨g1, rfl⟩ | ⟨g1, ⟨g2, rfl⟩ | ⟨g2, rfl⟩⟩ <;> first | rfl | contradiction
theorem ordX_ex (o : List Int) (n : Nat) : ∃ e, OrdX o n e := by
  by_cases h : o.length = n
  · by_cases h2 : IsOrd o
    · exact ⟨0, .inr ⟨h, .inl ⟨h2, rfl⟩⟩⟩
    · exact ⟨11, .inr ⟨h, .inr ⟨h2, rfl⟩⟩⟩
  · exact ⟨2, .inl ⟨h, rfl⟩⟩
theorem OrdX.ok {o : List Int} {n : Nat} (h : OrdX o n 0) : ∃ p, o = ints p ∧ OrdN n p := by
  rcases h with ⟨h1, h⟩ | ⟨h1, ⟨h2, h⟩ | ⟨h2, h⟩⟩
  · cases h
  · obtain ⟨p, h3, h4⟩ := h2
    exact ⟨p, h3, h1 ▸ h4⟩
  · cases h
theorem shCheckOrder_ok (o : List Int) (n : Nat) (v : Value) (w : World) (hl : SlI w v o) (hn : o.length ≤ 1000) :
    Calls Try.prog 40 #[v, .int .i64 n] w fun e w' => (∃ x : Int, e = .returned (.int .i64 x) ∧ OrdX o n x) ∧ w' = w := by
  have hl0 := hl
  obtain ⟨A, c, rfl⟩ := hl.form
  have HN := Lib.hid hn
  by_cases hlen : o.length = n
  case neg =>
    have hb : ((o.length : Int) != (n : Int)) = true := by simp; omega
    have HE : RowKit.Hid (OrdX o n 2) := Lib.hid (.inl ⟨hlen, rfl⟩)
    clear hl hl0 hn hlen
    go_enter Try.func40, Try.ntmps40
    go_wp2_with fail
    go_ret
    exact ⟨⟨_, rfl, HE.out⟩, rfl⟩
  case pos =>
  subst hlen
  have kC := fun (x : Int) => containsI_ok o x _ w hl0 (by omega)
  clear hl hl0 hn
  go_enter Try.func40, Try.ntmps40
  go_wp2_with fail
  go_loopw [11] (fun i wr => ∃ k : Nat, k ≤ o.length ∧ i = .int .i64 k ∧ (∀ q : Nat, q < k → (q : Int) ∈ o) ∧ wr = w) (fun i _ => o.length - (intOf i).toNat)
  case atStart => exact ⟨0, Nat.zero_le _, rfl, fun q h => absurd h (Nat.not_lt_zero q), rfl⟩
  case round =>
    obtain ⟨k, hk, rfl, hp, rfl⟩ := hrel
    have HP := Lib.hid hp
    clear hp
    rcases Nat.lt_or_eq_of_le hk with hkn | rfl
    · have kk := kC k
      obtain ⟨b, hb⟩ : ∃ b, b = decide ((k : Int) ∈ o) := ⟨_, rfl⟩
      rw [← hb] at kk
      have hi1 : (k : Int) < o.length := by omega
      have HK := Lib.hid (show k + 1 ≤ o.length from hkn)
      have HM := Lib.hid (show o.length - (k + 1) < o.length - k by omega)
      obtain ⟨wk1, wk2⟩ := wrapsV (show k < 1048576 by have := HN.out; omega)
      have HB := Lib.hid hb
      clear hb kC
      cases b with
      | true =>
        have HN2 : RowKit.Hid (∀ q : Nat, q < k + 1 → (q : Int) ∈ o) := Lib.hid fun q h => by
          rcases Nat.lt_or_eq_of_le (Nat.le_of_lt_succ h) with h3 | rfl
          · exact HP.out q h3
          · exact of_decide_eq_true HB.out.symm
        go_wp2_with (go_at_call 24; refine kk.mono ?_; rintro e v5 ⟨rfl, hv5⟩; obtain rfl := hv5)
        go_roundw
        case rel => exact ⟨k + 1, HK.out, by simp, HN2.out, by first | trivial | rfl⟩
        case measure => exact HM.out
      | false =>
        have HE : RowKit.Hid (OrdX o o.length 11) := Lib.hid (.inr ⟨rfl, .inr ⟨fun h => of_decide_eq_false HB.out.symm ((isOrd_in h).2.2 k hkn), rfl⟩⟩)
        go_wp2_with (go_at_call 24; refine kk.mono ?_; rintro e v5 ⟨rfl, hv5⟩; obtain rfl := hv5)
        go_ret
        exact ⟨⟨_, rfl, HE.out⟩, rfl⟩
    · have HE : RowKit.Hid (OrdX o o.length 0) := Lib.hid (.inr ⟨rfl, .inl ⟨isOrd_of_all HP.out, rfl⟩⟩)
      go_wp2_with fail
      go_ret
      exact ⟨⟨_, rfl, HE.out⟩, rfl⟩
theorem refIsOrder_ok (o : List Int) (v : Value) (w : World) (hl : SlI w v o) (hn : o.length ≤ 1000) :
    Calls Try.prog 16 #[v] w (DecS (IsOrd o) w) := by
  obtain ⟨A, c, rfl⟩ := hl.form
  have hB0 := Below.refl w.heap.size w
  have HN := Lib.hid hn
  have HL := Lib.hid hl
  clear hn hl
  go_enter Try.func16, Try.ntmps16
  go_wp2_with fail
  go_loopw [3] (fun i wr => ∃ k : Nat, k ≤ o.length ∧ i = .int .i64 k ∧ (∀ (q : Nat) (x : Int), q < k → o[q]? = some x → 0 ≤ x ∧ x < o.length) ∧ (∀ (q r : Nat) (x : Int), q < k → r < q → o[q]? = some x → o[r]? = some x → False) ∧ Below w.heap.size w wr) (fun i _ => o.length - (intOf i).toNat)
  case atStart => exact ⟨0, Nat.zero_le _, rfl, fun q x h => absurd h (Nat.not_lt_zero q), fun q r x h => absurd h (Nat.not_lt_zero q), hB0⟩
  case round =>
    clear hB0
    obtain ⟨k, hk, rfl, hp, hd, hX⟩ := hrel
    rename World => w3
    have HP := Lib.hid hp
    have HD := Lib.hid hd
    clear hp hd
    rcases Nat.lt_or_eq_of_le hk with hkn | rfl
    · obtain ⟨b, ob, x, rfl, -, hb, hx, rx⟩ := (HL.out.below hX).cells hkn
      have hi0 : (0 : Int) ≤ k := by omega
      have hi1 : (k : Int) < o.length := by omega
      have HK := Lib.hid (show k + 1 ≤ o.length from hkn)
      have HM := Lib.hid (show o.length - (k + 1) < o.length - k by omega)
      have HWK := Lib.hid (wrapsV (show k < 1048576 by have := HN.out; omega))
      have HX := Lib.hid hx
      obtain ⟨b1, hb1⟩ : ∃ b, decide (x < 0) = b := ⟨_, rfl⟩
      obtain ⟨b2, hb2⟩ : ∃ b, decide ((o.length : Int) ≤ x) = b := ⟨_, rfl⟩
      have HB1 := Lib.hid hb1
      have HB2 := Lib.hid hb2
      clear hx
      cases b1 with
      | true =>
        have hE : ¬ IsOrd o := fun h => by
          have h1 := ((isOrd_in h).1 x (List.mem_of_getElem? HX.out)).1
          have h2 := of_decide_eq_true HB1.out
          omega
        have HE := Lib.hid hE
        clear hE
        go_wp2_with fail
        go_ret
        exact decS_mk false ⟨fun h => (by cases h), fun h => absurd h HE.out⟩ hX
      | false =>
      cases b2 with
      | true =>
        have hE : ¬ IsOrd o := fun h => by
          have h1 := ((isOrd_in h).1 x (List.mem_of_getElem? HX.out)).2
          have h2 := of_decide_eq_true HB2.out
          omega
        have HE := Lib.hid hE
        clear hE
        go_wp2_with fail
        go_ret
        exact decS_mk false ⟨fun h => (by cases h), fun h => absurd h HE.out⟩ hX
      | false =>
      go_wp2_with fail
      go_loopw [4] (fun i wr => ∃ q : Nat, q ≤ k ∧ i = .int .i64 q ∧ (∀ (r : Nat), r < q → o[r]? = some x → False) ∧ Below w.heap.size w wr) (fun i _ => k - (intOf i).toNat)
      case atStart => exact ⟨0, Nat.zero_le _, rfl, fun q h => absurd h (Nat.not_lt_zero q), hX⟩
      case round =>
        clear hX rx
        obtain ⟨q, hq, rfl, hr, hX⟩ := hrel
        rename World => w4
        have HR := Lib.hid hr
        clear hr
        rcases Nat.lt_or_eq_of_le hq with hqn | rfl
        · obtain ⟨b', ob', y, e5, -, -, hy, ry⟩ := (HL.out.below hX).cells (k := q) (by omega)
          obtain ⟨rfl, rfl⟩ : b = b' ∧ ob = ob' := by injection e5 with e5; injection e5 with e6 e7; exact ⟨e6, e7⟩
          obtain ⟨b'', ob'', x', e8, -, -, hx', rx⟩ := (HL.out.below hX).cells (k := k) hkn
          obtain ⟨rfl, rfl⟩ : b = b'' ∧ ob = ob'' := by injection e8 with e8; injection e8 with e6 e7; exact ⟨e6, e7⟩
          obtain rfl := Option.some.inj (HX.out.symm.trans hx')
          have hq0 : (0 : Int) ≤ q := by omega
          have hq1 : (q : Int) < o.length := by omega
          have hqk : (q : Int) < k := by omega
          have HQK := Lib.hid (show q + 1 ≤ k from hqn)
          have HQM := Lib.hid (show k - (q + 1) < k - q by omega)
          obtain ⟨wq1, wq2⟩ := wrapsV (show q < 1048576 by have := HN.out; omega)
          have HY := Lib.hid hy
          have HXX := Lib.hid (below_drewN hX)
          obtain ⟨be, hbe⟩ : ∃ be, (y == x) = be := ⟨_, rfl⟩
          have HBE := Lib.hid hbe
          clear hy hx' hX e5 e8
          cases be with
          | true =>
            have hE : ¬ IsOrd o := fun h => by
              have h1 : y = x := by simpa using HBE.out
              exact (isOrd_in h).2.1 k q x hqn HX.out (h1 ▸ HY.out)
            have HE := Lib.hid hE
            clear hE
            go_wp2_with fail
            go_quiet (fail)
            go_wp2_with fail
            go_ret
            exact decS_mk false ⟨fun h => (by cases h), fun h => absurd h HE.out⟩ (HXX.out _)
          | false =>
            have HN2 : RowKit.Hid (∀ (r : Nat), r < q + 1 → o[r]? = some x → False) := Lib.hid fun r h1 h2 => by
              rcases Nat.lt_or_eq_of_le (Nat.le_of_lt_succ h1) with h3 | rfl
              · exact HR.out r h3 h2
              · obtain rfl := Option.some.inj (HY.out.symm.trans h2)
                have := HBE.out
                simp at this
            go_wp2_with fail
            go_quiet (fail)
            go_wp2_with fail
            go_roundw
            case rel => exact ⟨q + 1, HQK.out, by simp, HN2.out, HXX.out _⟩
            case measure => exact HQM.out
        · have HN2 : RowKit.Hid ((∀ (r : Nat) (x : Int), r < q + 1 → o[r]? = some x → 0 ≤ x ∧ x < o.length) ∧ (∀ (r s : Nat) (x : Int), r < q + 1 → s < r → o[r]? = some x → o[s]? = some x → False)) := Lib.hid ⟨fun r z h1 h2 => by
              rcases Nat.lt_or_eq_of_le (Nat.le_of_lt_succ h1) with h3 | rfl
              · exact HP.out r z h3 h2
              · obtain rfl := Option.some.inj (HX.out.symm.trans h2)
                have h4 := of_decide_eq_false HB1.out
                have h5 := of_decide_eq_false HB2.out
                omega, fun r s z h1 h2 h3 h4 => by
              rcases Nat.lt_or_eq_of_le (Nat.le_of_lt_succ h1) with h5 | rfl
              · exact HD.out r s z h5 h2 h3 h4
              · obtain rfl := Option.some.inj (HX.out.symm.trans h3)
                exact HR.out s h2 h4⟩
          obtain ⟨wk1, wk2⟩ := HWK.out
          go_wp2_with fail
          go_roundw
          case rel => exact ⟨q + 1, HK.out, by simp, HN2.out.1, HN2.out.2, hX⟩
          case measure => exact HM.out
    · have hE : IsOrd o := isOrd_mk (fun x hx => by
          obtain ⟨q, hq⟩ := List.mem_iff_getElem?.1 hx
          exact HP.out q x (List.getElem?_eq_some_iff.1 hq).1 hq) fun i k x h1 h2 h3 => HD.out i k x (List.getElem?_eq_some_iff.1 h2).1 h1 h2 h3
      have HE := Lib.hid hE
      clear hE
      go_wp2_with fail
      go_ret
      exact decS_mk true ⟨fun _ => HE.out, fun _ => rfl⟩ hX
theorem refCheckOrder_ok (o : List Int) (js : List JobT) (vj v : Value) (w : World) (hj : SlJ w vj js) (hl : SlI w v o) (hn : o.length ≤ 1000) :
    Calls Try.prog 7 #[vj, v] w fun e w' => (∃ x : Int, e = .returned (.int .i64 x) ∧ OrdX o js.length x) ∧ Below w.heap.size w w' := by
  have kI := refIsOrder_ok o v w hl hn
  obtain ⟨A, c, rfl⟩ := hl.form
  obtain ⟨Aj, cj, rfl⟩ := hj.form
  by_cases hlen : o.length = js.length
  case neg =>
    have hb : ((o.length : Int) != (js.length : Int)) = true := by simp; omega
    have HE : RowKit.Hid (OrdX o js.length 2) := Lib.hid (.inl ⟨hlen, rfl⟩)
    clear hl hn hlen hj kI
    go_enter Try.func7, Try.ntmps7
    go_wp2_with fail
    go_ret
    exact ⟨⟨_, rfl, HE.out⟩, Below.refl _ _⟩
  case pos =>
  have HL := Lib.hid hlen
  have hb : ((o.length : Int) != (js.length : Int)) = false := by simp; omega
  clear hl hn hj hlen
  go_enter Try.func7, Try.ntmps7
  go_wp2_with fail
  refine kI.mono ?_
  rintro e w2 ⟨⟨b, rfl, hbb⟩, hB⟩
  have HBB := Lib.hid hbb
  clear hbb kI
  cases b with
  | true =>
    have HE : RowKit.Hid (OrdX o js.length 0) := Lib.hid (.inr ⟨HL.out, .inl ⟨HBB.out.1 rfl, rfl⟩⟩)
    go_wp2_with fail
    go_ret
    exact ⟨⟨_, rfl, HE.out⟩, hB⟩
  | false =>
    have HE : RowKit.Hid (OrdX o js.length 11) := Lib.hid (.inr ⟨HL.out, .inr ⟨fun h => (by have := HBB.out.2 h; cases this), rfl⟩⟩)
    go_wp2_with fail
    go_ret
    exact ⟨⟨_, rfl, HE.out⟩, hB⟩
end Go.Proofs
