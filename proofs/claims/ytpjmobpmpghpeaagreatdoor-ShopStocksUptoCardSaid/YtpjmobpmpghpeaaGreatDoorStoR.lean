import Derived.Test.YtpjmobpmpghpeaaGreatDoorTakW0
section
/- What the reference takes of batches, day by day; no world. -/
namespace Go.Proofs
open Go.RowKit
set_option maxHeartbeats 4000000
set_option maxRecDepth 1000000
theorem sorted_eq {α : Type} {R : α → α → Prop} (irr : ∀ a, ¬ R a a) (asy : ∀ a b, R a b → R b a → False) : ∀ l m : List α, l.Pairwise R → m.Pairwise R → (∀ x, x ∈ l ↔ x ∈ m) → l = m
  | [], [], _, _, _ => rfl
  | [], b :: m, _, _, h => by have := (h b).2 (List.mem_cons_self ..); simp at this
  | a :: l, [], _, _, h => by have := (h a).1 (List.mem_cons_self ..); simp at this
  | a :: l, b :: m, hl, hm, h => by
    obtain ⟨la, ll⟩ := List.pairwise_cons.1 hl
    obtain ⟨ma, mm⟩ := List.pairwise_cons.1 hm
    have hab : a = b := by
      rcases List.mem_cons.1 ((h a).1 (List.mem_cons_self ..)) with e | e
      · exact e
      · rcases List.mem_cons.1 ((h b).2 (List.mem_cons_self ..)) with e2 | e2
        · exact e2.symm
        · exact (asy _ _ (ma a e) (la b e2)).elim
    subst hab
    rw [sorted_eq irr asy l m ll mm fun x => by
      constructor
      · intro hx
        rcases List.mem_cons.1 ((h x).1 (List.mem_cons_of_mem _ hx)) with e | e
        · subst e; exact (irr _ (la _ hx)).elim
        · exact e
      · intro hx
        rcases List.mem_cons.1 ((h x).2 (List.mem_cons_of_mem _ hx)) with e | e
        · subst e; exact (irr _ (ma _ hx)).elim
        · exact e]
/-- Days first, then places. -/
def DayR (l : List BatT) (i k : Nat) : Prop := untilOf l i < untilOf l k ∨ (untilOf l i = untilOf l k ∧ i < k)
theorem dayR_irr (l : List BatT) (i : Nat) : ¬ DayR l i i := by unfold DayR; omega
theorem dayR_asy (l : List BatT) (i k : Nat) : DayR l i k → DayR l k i → False := by unfold DayR; omega
theorem OrderS.days {l : List BatT} {p : List Nat} (h : OrderS (l.map (·.2.2.2)) p) : p.Pairwise (DayR l) := by
  rw [List.pairwise_iff_getElem]
  intro a b ha hb hab
  have := h.2 a b _ _ hab (List.getElem?_eq_getElem ha) (List.getElem?_eq_getElem hb)
  rw [untilOf_eq, untilOf_eq] at this
  exact this
theorem OrderS.mem {l : List BatT} {p : List Nat} (h : OrderS (l.map (·.2.2.2)) p) (i : Nat) : i ∈ p ↔ i < l.length := by
  rw [h.1.mem_iff]
  simp
/-- The batches that may be taken before a day. -/
def befP (l : List BatT) (kind : ByteArray) (day : Int) (p : List Nat) (u : Int) : List Nat := p.filter fun i => avail l kind day i && decide (untilOf l i < u)
/-- The first batches that may be taken until a day. -/
def onP (l : List BatT) (kind : ByteArray) (day : Int) (k : Nat) (u : Int) : List Nat := (List.range k).filter fun i => avail l kind day i && decide (untilOf l i = u)
theorem onP_pair (l : List BatT) (kind : ByteArray) (day : Int) (k : Nat) (u : Int) : (onP l kind day k u).Pairwise (DayR l) := by
  unfold onP
  have h1 : (List.range k).Pairwise (· < ·) := List.pairwise_lt_range
  have h2 := h1.filter (fun i => avail l kind day i && decide (untilOf l i = u))
  refine List.Pairwise.imp_of_mem ?_ h2
  intro a b ha hb hab
  have h3 := (List.mem_filter.1 ha).2
  have h4 := (List.mem_filter.1 hb).2
  simp only [Bool.and_eq_true, decide_eq_true_eq] at h3 h4
  exact .inr ⟨by omega, hab⟩
theorem bef_next {l : List BatT} {kind : ByteArray} {day : Int} {p : List Nat} {u nx : Int} (h : OrderS (l.map (·.2.2.2)) p) (hu : u ≤ nx) (hn : ∀ i, i < l.length → avail l kind day i = true → u ≤ untilOf l i → nx ≤ untilOf l i) :
    befP l kind day p (nx + 1) = befP l kind day p u ++ onP l kind day l.length nx := by
  refine sorted_eq (R := DayR l) (dayR_irr l) (dayR_asy l) _ _ (h.days.filter _) (List.pairwise_append.2 ⟨h.days.filter _, onP_pair l kind day _ _, fun a ha b hb => ?_⟩) fun x => ?_
  · have h3 := (List.mem_filter.1 ha).2
    have h4 := (List.mem_filter.1 hb).2
    simp only [Bool.and_eq_true, decide_eq_true_eq] at h3 h4
    exact .inl (by omega)
  · unfold befP onP
    simp only [List.mem_append, List.mem_filter, h.mem, List.mem_range, Bool.and_eq_true, decide_eq_true_eq]
    constructor
    · rintro ⟨h1, h2, h3⟩
      by_cases h4 : untilOf l x < u
      · exact .inl ⟨h1, h2, h4⟩
      · have := hn x h1 h2 (by omega)
        exact .inr ⟨h1, h2, by omega⟩
    · rintro (⟨h1, h2, h3⟩ | ⟨h1, h2, h3⟩)
      · exact ⟨h1, h2, by omega⟩
      · exact ⟨h1, h2, by omega⟩
theorem run_filter (l : List BatT) (kind : ByteArray) (day : Int) (q : Nat → Bool) (hq : ∀ i, avail l kind day i = true → q i = true) : ∀ (p : List Nat) (st : List TakT × Int), p.foldl (stepT l kind day) st = (p.filter fun i => avail l kind day i && q i).foldl (stepT l kind day) st
  | [], _ => rfl
  | i :: p, st => by
    rw [List.foldl_cons, run_filter l kind day q hq p]
    by_cases h : avail l kind day i = true
    · rw [List.filter_cons_of_pos (by rw [h, hq i h]; rfl), List.foldl_cons]
    · rw [List.filter_cons_of_neg (by simp [h])]
      unfold stepT
      rw [if_neg (fun h2 => h h2.2)]
theorem run_zero (l : List BatT) (kind : ByteArray) (day : Int) (T : List TakT) : ∀ (p : List Nat), p.foldl (stepT l kind day) (T, 0) = (T, 0)
  | [] => rfl
  | i :: p => by
    rw [List.foldl_cons]
    have : stepT l kind day (T, 0) i = (T, 0) := by
      unfold stepT partT
      rw [if_neg (fun h => by have := h.1; dsimp only at this; omega)]
    rw [this]
    exact run_zero l kind day T p
theorem bef_all {l : List BatT} {kind : ByteArray} {day : Int} {p : List Nat} {u : Int} (h : ∀ i, untilOf l i < u) (g : Int) : runT l kind day (befP l kind day p u) g = runT l kind day p g := by
  unfold runT befP
  exact (run_filter l kind day (fun i => decide (untilOf l i < u)) (fun i _ => decide_eq_true (h i)) p _).symm
theorem bef_rest {l : List BatT} {kind : ByteArray} {day : Int} {p : List Nat} (u : Int) (h : OrderS (l.map (·.2.2.2)) p) (g : Int) (h0 : (runT l kind day (befP l kind day p u) g).2 = 0) : runT l kind day (befP l kind day p u) g = runT l kind day p g := by
  have e : (p.filter fun i => avail l kind day i && true) = befP l kind day p u ++ p.filter fun i => avail l kind day i && decide (u ≤ untilOf l i) := by
    refine sorted_eq (R := DayR l) (dayR_irr l) (dayR_asy l) _ _ (h.days.filter _) (List.pairwise_append.2 ⟨h.days.filter _, h.days.filter _, fun a ha b hb => ?_⟩) fun x => ?_
    · have h3 := (List.mem_filter.1 ha).2
      have h4 := (List.mem_filter.1 hb).2
      simp only [Bool.and_eq_true, decide_eq_true_eq] at h3 h4
      exact .inl (by omega)
    · unfold befP
      simp only [List.mem_append, List.mem_filter, Bool.and_eq_true, decide_eq_true_eq, Bool.and_true]
      constructor
      · rintro ⟨h1, h2⟩
        by_cases h4 : untilOf l x < u
        · exact .inl ⟨h1, h2, h4⟩
        · exact .inr ⟨h1, h2, by omega⟩
      · rintro (⟨h1, h2, -⟩ | ⟨h1, h2, -⟩) <;> exact ⟨h1, h2⟩
  have h1 : runT l kind day p g = ((p.filter fun i => avail l kind day i && true).foldl (stepT l kind day) ([], g)) := run_filter l kind day (fun _ => true) (fun _ _ => rfl) p _
  rw [h1, e, List.foldl_append]
  unfold runT at h0 ⊢
  generalize (befP l kind day p u).foldl (stepT l kind day) ([], g) = st at h0 ⊢
  obtain ⟨T, m⟩ := st
  dsimp only at h0
  subst h0
  exact (run_zero l kind day T _).symm
theorem run_append (l : List BatT) (kind : ByteArray) (day : Int) (p q : List Nat) (g : Int) : runT l kind day (p ++ q) g = q.foldl (stepT l kind day) (runT l kind day p g) := by
  unfold runT
  rw [List.foldl_append]
theorem onP_succ (l : List BatT) (kind : ByteArray) (day : Int) (k : Nat) (u : Int) : onP l kind day (k + 1) u = onP l kind day k u ++ if (avail l kind day k && decide (untilOf l k = u)) = true then [k] else [] := by
  unfold onP
  rw [List.range_succ, List.filter_append]
  congr 1
  by_cases h : (avail l kind day k && decide (untilOf l k = u)) = true
  · rw [if_pos h]; simp only [List.filter_cons, h, if_true, List.filter_nil]
  · rw [if_neg h]; simp only [List.filter_cons, h, List.filter_nil]; rfl
/-- The least day from a day on of the first batches of a kind. -/
def NextD (l : List BatT) (kind : ByteArray) (day u : Int) (k : Nat) (nx : Int) : Prop := (∀ i, i < k → avail l kind day i = true → u ≤ untilOf l i → nx ≤ untilOf l i) ∧ (nx = 100000 ∨ ∃ i, i < k ∧ avail l kind day i = true ∧ u ≤ untilOf l i ∧ nx = untilOf l i)
theorem NextD.start (l : List BatT) (kind : ByteArray) (day u : Int) : NextD l kind day u 0 100000 := ⟨fun i h => absurd h (Nat.not_lt_zero i), .inl rfl⟩
theorem NextD.skip {l : List BatT} {kind : ByteArray} {day u nx : Int} {k : Nat} (h : NextD l kind day u k nx) (hs : ¬ (avail l kind day k = true ∧ u ≤ untilOf l k)) : NextD l kind day u (k + 1) nx :=
  ⟨fun i hi h1 h2 => by
    rcases Nat.lt_or_eq_of_le (Nat.le_of_lt_succ hi) with h3 | rfl
    · exact h.1 i h3 h1 h2
    · exact absurd ⟨h1, h2⟩ hs, h.2.imp id fun ⟨i, h1, h2⟩ => ⟨i, by omega, h2⟩⟩
theorem NextD.take {l : List BatT} {kind : ByteArray} {day u nx : Int} {k : Nat} (h : NextD l kind day u k nx) (ha : avail l kind day k = true) (hu : u ≤ untilOf l k) : NextD l kind day u (k + 1) (min nx (untilOf l k)) := by
  refine ⟨fun i hi h1 h2 => ?_, ?_⟩
  · rcases Nat.lt_or_eq_of_le (Nat.le_of_lt_succ hi) with h3 | rfl
    · have := h.1 i h3 h1 h2
      omega
    · omega
  · by_cases hm : untilOf l k ≤ nx
    · exact .inr ⟨k, Nat.lt_succ_self k, ha, hu, by omega⟩
    · rcases h.2 with h4 | ⟨i, h4, h5, h6, h7⟩
      · exact .inl (by omega)
      · exact .inr ⟨i, by omega, h5, h6, by omega⟩
theorem NextD.ge {l : List BatT} {kind : ByteArray} {day u nx : Int} {k : Nat} (h : NextD l kind day u k nx) (hu : u ≤ 100000) : u ≤ nx := by
  rcases h.2 with h4 | ⟨i, h4, h5, h6, h7⟩ <;> omega
end Go.Proofs
end

section
/- What the reference takes of batches. -/
namespace Go.Proofs
open Go.RowKit Go.MapKept
set_option maxHeartbeats 16000000
set_option maxRecDepth 1000000
theorem fold_rng (l : List BatT) (kind : ByteArray) (day : Int) : ∀ (p : List Nat) (st : List TakT × Int), 0 ≤ st.2 → 0 ≤ (p.foldl (stepT l kind day) st).2 ∧ (p.foldl (stepT l kind day) st).2 ≤ st.2
  | [], st, h => ⟨h, Int.le_refl _⟩
  | i :: p, st, h => by
    have h1 : 0 ≤ (stepT l kind day st i).2 ∧ (stepT l kind day st i).2 ≤ st.2 := by
      unfold stepT
      split
      · rename_i hc
        have hp : partT l st.2 i = min (gramsOf l i) st.2 := rfl
        have := hc.1
        dsimp only
        omega
      · exact ⟨h, Int.le_refl _⟩
    have h2 := fold_rng l kind day p _ h1.1
    rw [List.foldl_cons]
    omega
theorem run_rng (l : List BatT) (kind : ByteArray) (day : Int) (p : List Nat) (g : Int) (h : 0 ≤ g) : 0 ≤ (runT l kind day p g).2 ∧ (runT l kind day p g).2 ≤ g := fold_rng l kind day p ([], g) h
theorem bef_start (l : List BatT) (kind : ByteArray) (day : Int) (p : List Nat) : befP l kind day p day = [] := by
  unfold befP
  rw [List.filter_eq_nil_iff]
  intro i _ h
  simp only [Bool.and_eq_true, decide_eq_true_eq] at h
  obtain ⟨t, ht⟩ : ∃ t, l[i]? = some t := by
    have h1 := h.1
    unfold avail at h1
    cases hi : l[i]? with
    | none => rw [hi] at h1; cases h1
    | some t => exact ⟨t, rfl⟩
  have h1 := h.1
  rw [avail_at ht] at h1
  unfold forB at h1
  simp only [Bool.and_eq_true, decide_eq_true_eq] at h1
  have h2 := h.2
  rw [untilOf_at ht] at h2
  omega
theorem until_less {l : List BatT} (h : BatsOk l) (i : Nat) : untilOf l i ≤ 99999 := by
  unfold untilOf
  cases hi : l[i]? with
  | none => simp
  | some t => exact (h.at_ i t hi).2.2
theorem run_on (l : List BatT) (kind : ByteArray) (day : Int) (A : List Nat) (k : Nat) (u g : Int) : runT l kind day (A ++ onP l kind day (k + 1) u) g = if (avail l kind day k && decide (untilOf l k = u)) = true then stepT l kind day (runT l kind day (A ++ onP l kind day k u) g) k else runT l kind day (A ++ onP l kind day k u) g := by
  rw [onP_succ]
  split
  · rw [← List.append_assoc, run_append l kind day (A ++ onP l kind day k u)]
    rfl
  · rw [List.append_nil]
theorem bef_len (l : List BatT) (kind : ByteArray) (day : Int) (p : List Nat) (u : Int) : (befP l kind day p u).length ≤ p.length := List.length_filter_le _ _
theorem on_len (l : List BatT) (kind : ByteArray) (day : Int) (k : Nat) (u : Int) : (onP l kind day k u).length ≤ k := by
  have := List.length_filter_le (fun i => avail l kind day i && decide (untilOf l i = u)) (List.range k)
  rw [List.length_range] at this
  exact this
theorem refTaken_ok (v : Value) (l : List BatT) (kind : ByteArray) (g0 day : Int) (p : List Nat) (w : World) (hl : SlF encB w v l) (hs : l.length ≤ 12) (hok : BatsOk l) (hg : 0 ≤ g0 ∧ g0 ≤ 999999999) (hd : 0 ≤ day ∧ day ≤ 99999) (hp : OrderS (l.map (·.2.2.2)) p) :
    Calls Tryz.prog 17 #[v, .string kind, .int .i64 g0, .int .i64 day] w fun e w' => (∃ u, (0 < (runT l kind day p g0).2 ∧ e = .returned (.tuple #[.slice none 0 0, .int .i64 32])) ∨ (¬ 0 < (runT l kind day p g0).2 ∧ e = .returned (.tuple #[u, .int .i64 0]) ∧ OwnF encK 2 44 w' w.heap.size u (runT l kind day p g0).1)) ∧ Below w.heap.size w w' := by
  obtain ⟨A, cap, rfl⟩ := hl.form
  have hplen : p.length = l.length := by have := hp.1.length_eq; simpa using this
  have HP := Lib.hid hp
  have HPL := Lib.hid hplen
  have HG := Lib.hid hg
  have HD := Lib.hid hd
  have hs0 : runT l kind day (befP l kind day p day) g0 = ([], g0) := by rw [bef_start]; rfl
  have HS0 := Lib.hid hs0
  have HOK := Lib.hid hok
  have HSL := Lib.hid hs
  clear hp hplen hg hd hs0 hok hs
  go_enter Tryz.func17, Tryz.ntmps17
  go_wp2_with fail
  go_loopw [2, 10, 11] (fun gv tv uv wr => ∃ u : Int, day ≤ u ∧ u ≤ 100001 ∧ uv = .int .i64 u ∧ gv = .int .i64 (runT l kind day (befP l kind day p u) g0).2 ∧ OwnF encK 2 44 wr w.heap.size tv (runT l kind day (befP l kind day p u) g0).1 ∧ Below w.heap.size w wr) (fun _ _ uv _ => (100001 - intOf uv).toNat)
  case atStart => exact ⟨day, Int.le_refl _, by have := HD.out; omega, rfl, by rw [HS0.out], by rw [HS0.out]; exact OwnF.nil _ _ _, Below.refl _ _⟩
  case round =>
    obtain ⟨u, hdu, hu1, rfl, rfl, hown, hB⟩ := hrel
    rename World => w1
    have hlen : (runT l kind day (befP l kind day p u) g0).1.length ≤ 12 := by
      have h1 := run_len l kind day (befP l kind day p u) g0
      have h2 := bef_len l kind day p u
      have h3 := HPL.out
      have h4 := HSL.out
      omega
    have hrg := run_rng l kind day (befP l kind day p u) g0 HG.out.1
    have hall : ¬ u ≤ 99999 → runT l kind day (befP l kind day p u) g0 = runT l kind day p g0 := fun h => bef_all (fun i => by have := until_less HOK.out i; omega) g0
    have hrest := fun h0 => bef_rest (kind := kind) (day := day) u HP.out g0 h0
    generalize hst : runT l kind day (befP l kind day p u) g0 = st at hown hlen hrg hall hrest
    obtain ⟨T, g⟩ := st
    dsimp only at hown hlen hrg hall hrest
    obtain ⟨AU, cU, hU⟩ := (hown.sl encK_len).form
    subst hU
    have HST := Lib.hid hst
    have HALL := Lib.hid hall
    have HREST := Lib.hid hrest
    clear hst hall hrest
    have hex : ∀ (hfin : (T, g) = runT l kind day p g0), RowKit.Hid ((T, g) = runT l kind day p g0) := fun h => Lib.hid h
    obtain ⟨ub, hub⟩ : ∃ ub, decide (u ≤ 99999) = ub := ⟨_, rfl⟩
    obtain ⟨gb, hgb⟩ : ∃ gb, decide (0 < g) = gb := ⟨_, rfl⟩
    cases ub with
    | false =>
      have hfin : (T, g) = runT l kind day p g0 := HALL.out (of_decide_eq_false hub)
      have HF := Lib.hid hfin
      clear hfin
      by_cases hg0 : 0 < g
      · have hgt : decide (0 < g) = true := decide_eq_true hg0
        go_wp2
        go_ret2
        exact ⟨⟨.slice none 0 0, .inl ⟨by rw [← HF.out]; exact hg0, rfl⟩⟩, hB⟩
      · have hgt : decide (0 < g) = false := decide_eq_false hg0
        go_wp2
        go_ret2
        exact ⟨⟨_, .inr ⟨by rw [← HF.out]; exact hg0, rfl, by rw [← HF.out]; exact hown⟩⟩, hB⟩
    | true =>
    cases gb with
    | false =>
      have hfin : (T, g) = runT l kind day p g0 := HREST.out (by have := of_decide_eq_false hgb; omega)
      have HF := Lib.hid hfin
      clear hfin
      have hg0 : ¬ 0 < g := of_decide_eq_false hgb
      have hgt : decide (0 < g) = false := hgb
      go_wp2
      go_ret2
      exact ⟨⟨_, .inr ⟨by rw [← HF.out]; exact hg0, rfl, by rw [← HF.out]; exact hown⟩⟩, hB⟩
    | true =>
    have hu9 : u ≤ 99999 := of_decide_eq_true hub
    have hg1 : 0 < g := of_decide_eq_true hgb
    have HU := Lib.hid (And.intro hdu (And.intro hu1 hu9))
    have HRG := Lib.hid hrg
    have HGP := Lib.hid hg1
    clear hdu hu1 hu9 hrg hg1 HALL HREST hex
    go_wp2_with fail
    go_loopw [12, 13] (fun nv iv wr => ∃ (k : Nat) (nx : Int), k ≤ l.length ∧ iv = .int .i64 k ∧ nv = .int .i64 nx ∧ NextD l kind day u k nx ∧ wr = w1) (fun _ iv _ => l.length - (intOf iv).toNat)
    case atStart => exact ⟨0, 100000, Nat.zero_le _, rfl, rfl, NextD.start l kind day u, rfl⟩
    case round =>
      obtain ⟨k, nx, hk, rfl, rfl, hN, hw⟩ := hrel
      rename World => w2
      obtain rfl : w2 = w1 := hw
      have HN := Lib.hid hN
      clear hN
      rcases Nat.lt_or_eq_of_le hk with hkn | rfl
      · obtain ⟨⟨nm, kd, gr, un⟩, hc⟩ : ∃ t, l[k]? = some t := ⟨_, List.getElem?_eq_getElem hkn⟩
        obtain ⟨b, o, rfl, -, -, r0, r1, r2, r3⟩ := bat_cells (hl.below hB) hc
        dsimp only at r0 r1 r2 r3
        have hi0 : (0 : Int) ≤ k := by omega
        have hi1 : (k : Int) < l.length := by omega
        have HKK := Lib.hid (show k + 1 ≤ l.length from hkn)
        have HKM := Lib.hid (show l.length - (k + 1) < l.length - k by omega)
        have HWK := Lib.hid (wrapsL (show k < 1048576 by have := HSL.out; omega))
        have hav := avail_at hc kind day
        unfold forB at hav
        dsimp only at hav
        have hun := untilOf_at hc
        dsimp only at hun
        obtain ⟨kb, hkb⟩ : ∃ kb, (kd.toList == kind.toList) = kb := ⟨_, rfl⟩
        rw [hkb] at hav
        have HSK : RowKit.Hid (¬ (kb = true ∧ u ≤ un) → NextD l kind day u (k + 1) nx) := Lib.hid fun h => HN.out.skip fun h2 => h ⟨by
          have h3 := h2.1
          rw [hav] at h3
          simp only [Bool.and_eq_true] at h3
          exact h3.1, by rw [← hun]; exact h2.2⟩
        have HTK : RowKit.Hid (kb = true → u ≤ un → NextD l kind day u (k + 1) (min nx un)) := Lib.hid fun h h2 => by
          have := HN.out.take (by rw [hav, h]; simp only [Bool.true_and, decide_eq_true_eq]; have := HU.out.1; omega) (by rw [hun]; exact h2)
          rwa [hun] at this
        obtain ⟨wk1, wk2⟩ := HWK.out
        clear hav hun hc hk hkn hub hgb
        cases kb with
        | false =>
          have HR := Lib.hid (HSK.out (fun h => by cases h.1))
          clear HSK HTK
          go_wp2_with fail
          go_roundw
          case rel => exact ⟨k + 1, nx, HKK.out, by simp, rfl, HR.out, trivial⟩
          case measure => exact HKM.out
        | true =>
          by_cases hub2 : un < u
          · have hd1 : decide (un < u) = true := decide_eq_true hub2
            have HR := Lib.hid (HSK.out (fun h => by omega))
            clear HSK HTK hub2
            go_wp2_with fail
            go_roundw
            case rel => exact ⟨k + 1, nx, HKK.out, by simp, rfl, HR.out, trivial⟩
            case measure => exact HKM.out
          · have hd1 : decide (un < u) = false := decide_eq_false hub2
            have HR := Lib.hid (HTK.out rfl (by omega))
            clear HSK HTK hub2
            go_wp2_with fail
            go_roundw
            case rel => exact ⟨k + 1, min nx un, HKK.out, by simp, rfl, HR.out, trivial⟩
            case measure => exact HKM.out
      · have hnx1 : u ≤ nx := HN.out.ge (by have := HU.out; omega)
        have hnx2 : nx ≤ 100000 := by
          rcases HN.out.2 with h | ⟨i, -, -, -, h⟩
          · omega
          · have := until_less HOK.out i; omega
        have HNX := Lib.hid (And.intro hnx1 hnx2)
        have hst0 : runT l kind day (befP l kind day p u ++ onP l kind day 0 nx) g0 = (T, g) := by
          have : onP l kind day 0 nx = [] := rfl
          rw [this, List.append_nil]
          exact HST.out
        have HST0 := Lib.hid hst0
        have HOW := Lib.hid hown
        have HBB := Lib.hid hB
        clear hst0 hown hnx1 hnx2 hub hgb hk
        go_wp2_with fail
        go_loopw [2, 10, 14] (fun gv tv iv wr => ∃ k : Nat, k ≤ l.length ∧ iv = .int .i64 k ∧ gv = .int .i64 (runT l kind day (befP l kind day p u ++ onP l kind day k nx) g0).2 ∧ OwnF encK 2 44 wr w.heap.size tv (runT l kind day (befP l kind day p u ++ onP l kind day k nx) g0).1 ∧ Below w.heap.size w wr) (fun _ _ iv _ => l.length - (intOf iv).toNat)
        case atStart => exact ⟨0, Nat.zero_le _, rfl, by rw [HST0.out], by rw [HST0.out]; exact HOW.out, HBB.out⟩
        case round =>
          clear HOW HST0 hlen hB HST HRG HGP
          obtain ⟨k, hk, rfl, rfl, hown, hB⟩ := hrel
          rename World => w3
          have hlen : (runT l kind day (befP l kind day p u ++ onP l kind day k nx) g0).1.length ≤ 24 := by
            have h1 := run_len l kind day (befP l kind day p u ++ onP l kind day k nx) g0
            have h2 := bef_len l kind day p u
            have h5 := on_len l kind day k nx
            have h3 := HPL.out
            have h4 := HSL.out
            rw [List.length_append] at h1
            omega
          have hrg := run_rng l kind day (befP l kind day p u ++ onP l kind day k nx) g0 HG.out.1
          have hro := run_on l kind day (befP l kind day p u) k nx g0
          rcases Nat.lt_or_eq_of_le hk with hkn | rfl
          · generalize runT l kind day (befP l kind day p u ++ onP l kind day k nx) g0 = st at hown hlen hrg hro
            obtain ⟨T, g⟩ := st
            dsimp only at hown hlen hrg hro
            obtain ⟨⟨nm, kd, gr, un⟩, hc⟩ : ∃ t, l[k]? = some t := ⟨_, List.getElem?_eq_getElem hkn⟩
            obtain ⟨b, o, rfl, -, -, r0, r1, r2, r3⟩ := bat_cells (hl.below hB) hc
            dsimp only at r0 r1 r2 r3
            have hi0 : (0 : Int) ≤ k := by omega
            have hi1 : (k : Int) < l.length := by omega
            have HKK := Lib.hid (show k + 1 ≤ l.length from hkn)
            have HKM := Lib.hid (show l.length - (k + 1) < l.length - k by omega)
            have HWK := Lib.hid (wrapsL (show k < 1048576 by have := HSL.out; omega))
            have hav := avail_at hc kind day
            unfold forB at hav
            dsimp only at hav
            have hun := untilOf_at hc
            dsimp only at hun
            have hgr := gramsOf_at hc
            dsimp only at hgr
            have hgr2 := (HOK.out).grams k
            rw [hgr] at hgr2
            obtain ⟨kb, hkb⟩ : ∃ kb, (kd.toList == kind.toList) = kb := ⟨_, rfl⟩
            rw [hkb] at hav
            obtain ⟨part, hpart⟩ : ∃ part, part = min g gr := ⟨_, rfl⟩
            have hstep : stepT l kind day (T, g) k = if 0 < part ∧ avail l kind day k = true then (T ++ [(k, part)], g - part) else (T, g) := by
              unfold stepT partT
              dsimp only
              rw [hgr, Int.min_comm gr g, ← hpart]
            rw [hstep, hun] at hro
            have HNO : RowKit.Hid (¬ (kb = true ∧ un = nx ∧ 0 < part) → runT l kind day (befP l kind day p u ++ onP l kind day (k + 1) nx) g0 = (T, g)) := Lib.hid fun h => by
              rw [hro]
              split
              · rename_i h1
                simp only [Bool.and_eq_true, decide_eq_true_eq] at h1
                rw [if_neg]
                intro h2
                refine h ⟨?_, h1.2, h2.1⟩
                have h3 := h1.1
                rw [hav] at h3
                simp only [Bool.and_eq_true] at h3
                exact h3.1
              · rfl
            have HYES : RowKit.Hid (kb = true → un = nx → 0 < part → runT l kind day (befP l kind day p u ++ onP l kind day (k + 1) nx) g0 = (T ++ [(k, part)], g - part)) := Lib.hid fun h1 h2 h3 => by
              have h4 : avail l kind day k = true := by
                rw [hav, h1]
                simp only [Bool.true_and, decide_eq_true_eq]
                have := HU.out
                have := HNX.out
                omega
              rw [hro, if_pos (by rw [h4, decide_eq_true h2]; rfl), if_pos ⟨h3, h4⟩]
            have hwr := wrapR (n := g - part) (by have := HG.out; omega)
            have HWR := Lib.hid hwr
            have hTl : T.length ≤ 1048576 := by omega
            have hmin : min g gr = part := hpart.symm
            obtain ⟨AV, cV, hV⟩ := (hown.sl encK_len).form
            subst hV
            clear hav hun hgr hgr2 hro hstep hpart hwr hrg hlen hc hkn hk
            obtain ⟨eb, heb⟩ : ∃ eb, (un == nx) = eb := ⟨_, rfl⟩
            obtain ⟨pb, hpb⟩ : ∃ pb, decide (0 < part) = pb := ⟨_, rfl⟩
            cases kb with
            | false =>
              have HR := Lib.hid (HNO.out (fun h => by cases h.1))
              obtain ⟨wk1, wk2⟩ := HWK.out
              clear HNO HYES
              go_wp2_with fail
              go_roundw
              case rel => exact ⟨k + 1, HKK.out, by simp, by rw [HR.out], by rw [HR.out]; exact hown, hB⟩
              case measure => exact HKM.out
            | true =>
            cases eb with
            | false =>
              have HR := Lib.hid (HNO.out (fun h => by have := h.2.1; simp at heb; exact heb this))
              obtain ⟨wk1, wk2⟩ := HWK.out
              clear HNO HYES
              go_wp2_with fail
              go_roundw
              case rel => exact ⟨k + 1, HKK.out, by simp, by rw [HR.out], by rw [HR.out]; exact hown, hB⟩
              case measure => exact HKM.out
            | true =>
            cases pb with
            | false =>
              have HR := Lib.hid (HNO.out (fun h => absurd h.2.2 (of_decide_eq_false hpb)))
              obtain ⟨wk1, wk2⟩ := HWK.out
              clear HNO HYES
              go_wp2_with fail
              go_roundw
              case rel => exact ⟨k + 1, HKK.out, by simp, by rw [HR.out], by rw [HR.out]; exact hown, hB⟩
              case measure => exact HKM.out
            | true =>
              have HR := Lib.hid (HYES.out rfl (by simpa using heb) (of_decide_eq_true hpb))
              obtain ⟨wk1, wk2⟩ := HWK.out
              obtain ⟨wr1, wr2⟩ := HWR.out
              obtain ⟨Wt, hW⟩ : ∃ Wt, Wt = w3.alloc (.cells #[.int .i64 (k : Int), .int .i64 part] 44) := ⟨_, rfl⟩
              have hQt : Below w3.heap.size w3 Wt := by subst hW; exact (Below.refl _ _).alloc (Nat.le_refl _) _
              have hrowN : Wt.heap[w3.heap.size]? = some (.cells (encK (k, part)).toArray 44 (0, 0)) := by subst hW; exact heap_alloc_new w3 _
              have hownT := hown.keep hQt
              have hBt := hB.trans (hQt.mono hB.size)
              have hlt := hownT.lt
              obtain ⟨A2, c2, w4, hap, hown2, hg2, -⟩ := run_append_one (P := Tryz.prog) Wt 39 39 44 w.heap.size _ T (k, part) encK_len encK_one hownT w3.heap.size 1 16 (.agg #[.int .i64 0, .int .i64 0]) Tryz.underlying39 (by kernel_rfl) rfl (by decide) (by decide) (flat_row hrowN) hTl hBt.size
              have hB4 := hBt.grown hg2 hBt.size (fun g e => (hlt g e).1)
              have HW1 := Lib.hid hW
              have HAP := Lib.hid hap
              have HO := Lib.hid (And.intro hown2 hB4)
              clear hap hW hown2 hg2 hB4 hlt hBt hownT hrowN hQt HNO HYES hown hB
              go_wp2_with (at_builtin; rw [← HW1.out]; refine Lib.wpList_append_run _ rfl _ _ _ _ rfl _ _ rfl rfl _ _ HAP.out ?_)
              go_roundw
              case rel => exact ⟨k + 1, HKK.out, by simp, by rw [HR.out], by rw [HR.out]; exact HO.out.1, HO.out.2⟩
              case measure => exact HKM.out
          · have HE := Lib.hid (bef_next (kind := kind) (day := day) HP.out HNX.out.1 HN.out.1)
            have HB3 := Lib.hid (And.intro hown hB)
            have HWU := Lib.hid (wrapR (n := nx + 1) (by have := HNX.out; have := HU.out; have := HD.out; omega))
            obtain ⟨wu1, wu2⟩ := HWU.out
            clear hown hB hro hrg hlen
            go_wp2_with fail
            go_roundw
            case rel => exact ⟨nx + 1, by have := HNX.out; have := HU.out; omega, by have := HNX.out; omega, rfl, by rw [HE.out], by rw [HE.out]; exact HB3.out.1, HB3.out.2⟩
            case measure => have := HNX.out; have := HU.out; simp only [intOf]; omega
end Go.Proofs
end
