import Derived.Test.YtclmaobblnfplaaJbU
import Derived.Test.YtclmaobblnfplaaJbN
import Derived.Test.YtclmaobblnfplaaJbE
section
/- Jobs: hits at a station: isHit and hasHit of shop. -/
namespace Go.Proofs
open Go.RowKit Go.MapKept
set_option maxHeartbeats 16000000
set_option maxRecDepth 1000000
def useV (u : UseT) : Value := .agg #[.int .i64 u.1, .int .i64 u.2]
def HitU (u v : UseT) : Prop := max u.1 v.1 < min u.2 v.2
theorem shIsHit_ok (a b c d : Int) (w : World) :
    Calls Try.prog 54 #[.agg #[.int .i64 a, .int .i64 b], .agg #[.int .i64 c, .int .i64 d]] w fun e w' => e = .returned (.bool (decide (max a c < min b d))) ∧ Below w.heap.size w w' := by
  have hB : Below w.heap.size w ((w.alloc (.cells #[.int .i64 a, .int .i64 b] 70)).alloc (.cells #[.int .i64 c, .int .i64 d] 70)) := ((Below.refl _ _).alloc (Nat.le_refl _) _).alloc (by simp) _
  go_enter Try.func54, Try.ntmps54
  go_wp2
  all_goals (go_ret; exact ⟨congrArg (fun z => Ending.returned (Value.bool z)) (decide_eq_decide.2 (by omega)), hB⟩)
theorem shIndexF_ok (U : List UseT) (k B cap : Nat) (a b : Int) (w : World) (hU : UAt w B U) (hk : k ≤ U.length) (hn : U.length ≤ 1000) :
    Calls Try.prog 57 #[.slice (some ⟨B, 0, none⟩) k cap, .func (.func 54) #[.agg #[.int .i64 a, .int .i64 b]] #[]] w fun e w' => (∃ i : Int, e = .returned (.int .i64 i) ∧ (0 ≤ i ↔ ∃ (q : Nat) (c : UseT), q < k ∧ U[q]? = some c ∧ HitU (a, b) c)) ∧ Below w.heap.size w w' := by
  have hB0 := Below.refl w.heap.size w
  have HY : RowKit.Hid (∀ (q : Nat) (c : UseT), q < k → U[q]? = some c → max a c.1 < min b c.2 → ∃ (q : Nat) (c : UseT), q < k ∧ U[q]? = some c ∧ HitU (a, b) c) := Lib.hid fun q c h1 h2 h3 => ⟨q, c, h1, h2, h3⟩
  have HN : RowKit.Hid ((∀ (q : Nat) (c : UseT), q < k → U[q]? = some c → ¬ max a c.1 < min b c.2) → ¬ ∃ (q : Nat) (c : UseT), q < k ∧ U[q]? = some c ∧ HitU (a, b) c) := Lib.hid fun h => by
    rintro ⟨q, c, h1, h2, h3⟩
    exact h q c h1 h2 h3
  generalize (∃ (q : Nat) (c : UseT), q < k ∧ U[q]? = some c ∧ HitU (a, b) c) = EE at HY HN ⊢
  go_enter Try.func57, Try.ntmps57
  go_wp2
  go_loopw [8] (fun i wr => ∃ q : Nat, q ≤ k ∧ i = .int .i64 q ∧ (∀ (p : Nat) (c : UseT), p < q → U[p]? = some c → ¬ max a c.1 < min b c.2) ∧ Below w.heap.size w wr) (fun i _ => k - (intOf i).toNat)
  case atStart => exact ⟨0, Nat.zero_le _, rfl, fun p c h => absurd h (Nat.not_lt_zero p), hB0⟩
  case round =>
    clear hB0
    obtain ⟨q, hq, rfl, hp, hX⟩ := hrel
    rename World => w3
    have HP := Lib.hid hp
    clear hp
    rcases Nat.lt_or_eq_of_le hq with hqn | rfl
    · obtain ⟨⟨c, d⟩, hc⟩ : ∃ c, U[q]? = some c := ⟨_, List.getElem?_eq_getElem (by omega)⟩
      obtain ⟨r0, r1⟩ := (hU.below hX).2 q _ hc
      dsimp only at r0 r1
      have hi0 : (0 : Int) ≤ q := by omega
      have hi1 : (q : Int) < k := by omega
      have HK := Lib.hid (show q + 1 ≤ k from hqn)
      have HM := Lib.hid (show k - (q + 1) < k - q by omega)
      obtain ⟨wk1, wk2⟩ := wrapsV (show q < 1048576 by omega)
      have kH := fun W => shIsHit_ok a b c d W
      have HC := Lib.hid hc
      obtain ⟨r, hr⟩ : ∃ r, decide (max a c < min b d) = r := ⟨_, rfl⟩
      rw [hr] at kH
      clear hc
      cases r with
      | true =>
        have hE : EE := HY.out q (c, d) hqn HC.out (of_decide_eq_true hr)
        have HEE := Lib.hid hE
        clear hE hr
        go_wp2_with (go_at_call 54; refine (kH _).mono ?_; rintro e w4 ⟨rfl, hB4⟩)
        go_ret
        exact ⟨⟨_, rfl, fun _ => HEE.out, fun _ => hi0⟩, hX.trans (hB4.mono hX.size)⟩
      | false =>
        have HN2 : RowKit.Hid (∀ (p : Nat) (c : UseT), p < q + 1 → U[p]? = some c → ¬ max a c.1 < min b c.2) := Lib.hid fun p e h1 h2 => by
          rcases Nat.lt_or_eq_of_le (Nat.le_of_lt_succ h1) with h3 | rfl
          · have h4 := HP.out p e h3 h2
            first | exact h4 | exact Int.not_lt.2 h4 | exact Int.not_lt.1 h4
          · obtain rfl := Option.some.inj (HC.out.symm.trans h2)
            have h4 := of_decide_eq_false hr
            first | exact h4 | exact Int.not_lt.2 h4 | exact Int.not_lt.1 h4
        clear hr
        go_wp2_with (go_at_call 54; refine (kH _).mono ?_; rintro e w4 ⟨rfl, hB4⟩)
        go_roundw
        case rel => exact ⟨q + 1, HK.out, by simp, (by first | exact HN2.out | exact fun p c h1 h2 => Int.not_lt.2 (HN2.out p c h1 h2)), hX.trans (hB4.mono hX.size)⟩
        case measure => exact HM.out
    · have hE : ¬ EE := HN.out (fun p c h1 h2 => by
        have h4 := HP.out p c h1 h2
        first | exact h4 | exact Int.not_lt.2 h4 | exact Int.not_lt.1 h4)
      have HEE := Lib.hid hE
      clear hE
      go_wp2_with fail
      go_ret
      exact ⟨⟨_, rfl, fun h => absurd h (by decide), fun h => absurd h HEE.out⟩, hX⟩
theorem shContainsF_ok (U : List UseT) (k B cap : Nat) (a b : Int) (w : World) (hU : UAt w B U) (hk : k ≤ U.length) (hn : U.length ≤ 1000) :
    Calls Try.prog 53 #[.slice (some ⟨B, 0, none⟩) k cap, .func (.func 54) #[.agg #[.int .i64 a, .int .i64 b]] #[]] w (DecS (∃ (q : Nat) (c : UseT), q < k ∧ U[q]? = some c ∧ HitU (a, b) c) w) := by
  have k1 := shIndexF_ok U k B cap a b w hU hk hn
  generalize (∃ (q : Nat) (c : UseT), q < k ∧ U[q]? = some c ∧ HitU (a, b) c) = EE at k1 ⊢
  go_enter Try.func53, Try.ntmps53
  go_wp2_with (go_at_call 57; refine k1.mono ?_; rintro e w4 ⟨⟨i, rfl, hi⟩, hB4⟩; have HI := Lib.hid hi; clear hi)
  go_ret
  exact decS_mk (decide (0 ≤ i)) (by rw [decide_eq_true_eq]; exact HI.out) hB4
/-- Two uses of a station hit each other. -/
def PairHit (U : List UseT) : Prop := ∃ (i q : Nat) (a c : UseT), q < i ∧ U[i]? = some a ∧ U[q]? = some c ∧ HitU a c
theorem shHasHit_ok (U : List UseT) (B cap : Nat) (w : World) (hU : UAt w B U) (hn : U.length ≤ 1000) (hcap : U.length ≤ cap) (hcap2 : cap ≤ 1000) :
    Calls Try.prog 43 #[.slice (some ⟨B, 0, none⟩) U.length cap] w (DecS (PairHit U) w) := by
  have hB0 := Below.refl w.heap.size w
  have HY : RowKit.Hid (∀ (i : Nat) (a : UseT), U[i]? = some a → (∃ (q : Nat) (c : UseT), q < i ∧ U[q]? = some c ∧ HitU a c) → PairHit U) := Lib.hid fun i a h1 ⟨q, c, h2, h3, h4⟩ => ⟨i, q, a, c, h2, h1, h3, h4⟩
  have HN : RowKit.Hid ((∀ (i : Nat) (a : UseT), U[i]? = some a → ¬ ∃ (q : Nat) (c : UseT), q < i ∧ U[q]? = some c ∧ HitU a c) → ¬ PairHit U) := Lib.hid fun h => by
    rintro ⟨i, q, a, c, h1, h2, h3, h4⟩
    exact h i a h2 ⟨q, c, h1, h3, h4⟩
  have HKC : RowKit.Hid (∀ (k : Nat) (a b : Int) (W : World), UAt W B U → k ≤ U.length → Calls Try.prog 53 #[.slice (some ⟨B, 0, none⟩) k cap, .func (.func 54) #[.agg #[.int .i64 a, .int .i64 b]] #[]] W (DecS (∃ (q : Nat) (c : UseT), q < k ∧ U[q]? = some c ∧ HitU (a, b) c) W)) := Lib.hid fun k a b W h1 h2 => shContainsF_ok U k B cap a b W h1 h2 hn
  generalize PairHit U = EE at HY HN ⊢
  go_enter Try.func43, Try.ntmps43
  go_wp2
  go_loopw [7] (fun i wr => ∃ k : Nat, k ≤ U.length ∧ i = .int .i64 k ∧ (∀ (i : Nat) (a : UseT), i < k → U[i]? = some a → ¬ ∃ (q : Nat) (c : UseT), q < i ∧ U[q]? = some c ∧ HitU a c) ∧ Below w.heap.size w wr) (fun i _ => U.length - (intOf i).toNat)
  case atStart => exact ⟨0, Nat.zero_le _, rfl, fun p c h => absurd h (Nat.not_lt_zero p), hB0⟩
  case round =>
    clear hB0
    obtain ⟨k, hk, rfl, hp, hX⟩ := hrel
    rename World => w3
    have HP := Lib.hid hp
    clear hp
    rcases Nat.lt_or_eq_of_le hk with hkn | rfl
    · obtain ⟨⟨a, b⟩, hc⟩ : ∃ c, U[k]? = some c := ⟨_, List.getElem?_eq_getElem hkn⟩
      have hU3 := hU.below hX
      obtain ⟨r0, r1⟩ := hU3.2 k _ hc
      dsimp only at r0 r1
      have hi0 : (0 : Int) ≤ k := by omega
      have hi1 : (k : Int) < U.length := by omega
      have hi2 : (k : Int) ≤ cap := by omega
      have hi3 : k ≤ cap := by omega
      have HK := Lib.hid (show k + 1 ≤ U.length from hkn)
      have HM := Lib.hid (show U.length - (k + 1) < U.length - k by omega)
      obtain ⟨wk1, wk2⟩ := wrapsV (show k < 1048576 by omega)
      have HC := Lib.hid hc
      obtain ⟨W0, hW⟩ : ∃ W0, W0 = w3.alloc (.cells #[.int .i64 a, .int .i64 b] 70) := ⟨_, rfl⟩
      have hB0 : Below w3.heap.size w3 W0 := by subst hW; exact (Below.refl _ _).alloc (Nat.le_refl _) _
      have rj : RowK W0 70 w3.heap.size [.int .i64 a, .int .i64 b] := by subst hW; exact heap_alloc_new w3 _
      have kk : ∀ V, Below W0.heap.size W0 V → V.cell? ⟨w3.heap.size, 0, none⟩ = some (.int .i64 a) ∧ V.cell? ⟨w3.heap.size, 1, none⟩ = some (.int .i64 b) := fun V h => ⟨(rj.below h).cell (by rfl), (rj.below h).cell (by rfl)⟩
      have hD := (Below.refl W0.heap.size W0).drew
      have hky := kk _ hD
      have kC := HKC.out k a b W0.drew ((hU3.below hB0).below hD) (Nat.le_of_lt hkn)
      have HX0 := Lib.hid (hX.trans ((hB0.trans (hD.mono hB0.size)).mono hX.size))
      have HKK := Lib.hid kk
      have HHD := Lib.hid hD
      clear hc hX hU3 rj kk
      go_wp2_with fail
      rw [← hW]
      clear hW r0 r1
      go_region_held3 (fun V => V.cell? ⟨w3.heap.size, 0, none⟩ = some (.int .i64 a) ∧ V.cell? ⟨w3.heap.size, 1, none⟩ = some (.int .i64 b)) (first | exact hky | exact hky2 | go_keep)
        (first
          | (go_at_call 53; refine kC.mono ?_; rintro e v1 ⟨⟨r, rfl, hr⟩, hQ1⟩; have HR := Lib.hid hr; clear hr; have hky2 := HKK.out _ (HHD.out.trans (hQ1.mono HHD.out.size)); have hX1 := HX0.out.trans (hQ1.mono HX0.out.size)))
      rename_i hHeld
      clear hHeld hky hky2 kC
      cases r with
      | true =>
        have hE : EE := HY.out k (a, b) HC.out (HR.out.1 rfl)
        have HEE := Lib.hid hE
        clear hE
        go_wp2_with fail
        go_ret
        exact decS_mk true ⟨fun _ => HEE.out, fun _ => rfl⟩ hX1
      | false =>
        have HN2 : RowKit.Hid (∀ (i : Nat) (a : UseT), i < k + 1 → U[i]? = some a → ¬ ∃ (q : Nat) (c : UseT), q < i ∧ U[q]? = some c ∧ HitU a c) := Lib.hid fun p e h1 h2 => by
          rcases Nat.lt_or_eq_of_le (Nat.le_of_lt_succ h1) with h3 | rfl
          · exact HP.out p e h3 h2
          · obtain rfl := Option.some.inj (HC.out.symm.trans h2)
            exact fun h => by have := HR.out.2 h; cases this
        go_wp2_with fail
        go_roundw
        case rel => exact ⟨k + 1, HK.out, by simp, HN2.out, hX1⟩
        case measure => exact HM.out
    · have hE : ¬ EE := HN.out (fun p c h2 => HP.out p c (List.getElem?_eq_some_iff.1 h2).1 h2)
      have HEE := Lib.hid hE
      clear hE
      go_wp2_with fail
      go_ret
      exact decS_mk false ⟨fun h => (by cases h), fun h => absurd h HEE.out⟩ hX
end Go.Proofs
end

section
/- Jobs: checkNumbers and isEarly of shop. -/
namespace Go.Proofs
open Go.RowKit Go.MapKept
set_option maxHeartbeats 16000000
set_option maxRecDepth 1000000
open Classical in
noncomputable def numE (S : List (List Int)) (n m : Nat) : Int := if S.length ≠ n then 2 else if ∃ x ∈ S, x.length ≠ m then 2 else orL (S.map fun x => allE x 0 999999999)
theorem numE_a {S : List (List Int)} {n m : Nat} (h : S.length ≠ n) : numE S n m = 2 := by unfold numE; rw [if_pos h]
theorem numE_b {S : List (List Int)} {n m k : Nat} {x : List Int} (hx : S[k]? = some x) (h : x.length ≠ m) : numE S n m = 2 := by
  unfold numE
  by_cases hn : S.length ≠ n
  · rw [if_pos hn]
  · rw [if_neg hn, if_pos ⟨x, List.mem_of_getElem? hx, h⟩]
theorem numE_c {S : List (List Int)} {n m : Nat} (hn : S.length = n) (h : ∀ (k : Nat) (x : List Int), S[k]? = some x → x.length = m) : numE S n m = orL (S.map fun x => allE x 0 999999999) := by
  unfold numE
  rw [if_neg (fun h2 => h2 hn), if_neg]
  rintro ⟨x, hx, h2⟩
  obtain ⟨k, hk⟩ := List.mem_iff_getElem?.1 hx
  exact h2 (h k x hk)
theorem shNumbers_ok (js : List JobT) (S : List (List Int)) (v vs : Value) (w : World) (hl : SlJ w v js) (hp : 0 < js.length) (hS : SlLL w vs S) (hn : S.length ≤ 1000) (hs : ∀ x ∈ S, x.length ≤ 1000) :
    Calls Try.prog 41 #[v, vs] w fun e w' => e = .returned (.int .i64 (numE S js.length (stN js))) ∧ Below w.heap.size w w' := by
  obtain ⟨Av, cv, rfl⟩ := hS.form
  obtain ⟨bJ, oJ, cap, rfl, hbJ, hat⟩ := hl.addr hp
  obtain ⟨⟨nm0, t0, d0⟩, hj0⟩ : ∃ j, js[0]? = some j := ⟨_, List.getElem?_eq_getElem hp⟩
  obtain ⟨vt0, vd0, -, q1, -, qt, -⟩ := hat 0 _ hj0
  dsimp only at q1 qt
  rw [Nat.zero_mul, Nat.add_zero] at q1
  have hm0 : t0.length = stN js := by unfold stN; rw [hj0]
  have kSt := fun W (h : Below w.heap.size w W) => stations_ok vt0 t0 bJ oJ js.length cap W ((h.cell (p := ⟨bJ, oJ + 1, none⟩) hbJ).trans q1) (qt.below h) hp
  rw [hm0] at kSt
  have HA : RowKit.Hid (S.length ≠ js.length → numE S js.length (stN js) = 2) := Lib.hid fun h => numE_a h
  have HB : RowKit.Hid (∀ (k : Nat) (x : List Int), S[k]? = some x → x.length ≠ stN js → numE S js.length (stN js) = 2) := Lib.hid fun k x hx h => numE_b hx h
  have HC : RowKit.Hid (S.length = js.length → (∀ (k : Nat) (x : List Int), S[k]? = some x → x.length = stN js) → numE S js.length (stN js) = orL (S.map fun x => allE x 0 999999999)) := Lib.hid fun h h2 => numE_c h h2
  have hB0 := Below.refl w.heap.size w
  generalize numE S js.length (stN js) = er at HA HB HC ⊢
  generalize stN js = m at kSt HB HC
  obtain ⟨b1, hb1⟩ : ∃ b, ((S.length : Int) != (js.length : Int)) = b := ⟨_, rfl⟩
  clear hl hat hj0 hm0 q1 qt
  cases b1 with
  | true =>
    have h2 : er = 2 := HA.out (fun h => by rw [h] at hb1; simp at hb1)
    subst h2
    go_enter Try.func41, Try.ntmps41
    go_wp2
    go_ret
    exact ⟨rfl, hB0⟩
  | false =>
    have hSn : S.length = js.length := by simp at hb1; omega
    have HSN := Lib.hid hSn
    clear hSn HA
    go_enter Try.func41, Try.ntmps41
    go_wp2
    go_loopw [14] (fun i wr => ∃ k : Nat, k ≤ S.length ∧ i = .int .i64 k ∧ (∀ (i : Nat) (x : List Int), i < k → S[i]? = some x → x.length = m) ∧ Below w.heap.size w wr) (fun i _ => S.length - (intOf i).toNat)
    case atStart => exact ⟨0, Nat.zero_le _, rfl, fun j y h _ => absurd h (Nat.not_lt_zero j), hB0⟩
    case round =>
      clear hB0
      obtain ⟨k, hk, rfl, hpp, hX⟩ := hrel
      rename World => w3
      have HP := Lib.hid hpp
      clear hpp
      rcases Nat.lt_or_eq_of_le hk with hkn | rfl
      · obtain ⟨b, o, x, Ax, cx, rfl, hbl, hx, rk, hxs⟩ := (hS.below hX).cells hkn
        have hi0 : (0 : Int) ≤ k := by omega
        have hi1 : (k : Int) < S.length := by omega
        have HK := Lib.hid (show k + 1 ≤ S.length from hkn)
        have HM := Lib.hid (show S.length - (k + 1) < S.length - k by omega)
        obtain ⟨wk1, wk2⟩ := wrapsV (show k < 1048576 by omega)
        have HY := Lib.hid hx
        have kS0 := kSt _ hX
        clear hx hxs
        obtain ⟨b2, hb2⟩ : ∃ b, ((x.length : Int) != (m : Int)) = b := ⟨_, rfl⟩
        cases b2 with
        | true =>
          have h2 : er = 2 := HB.out k x HY.out (fun h => by rw [h] at hb2; simp at hb2)
          subst h2
          go_wp2_with (go_at_call 27; refine kS0.mono ?_; rintro e v5 ⟨rfl, hv5⟩; obtain rfl := hv5)
          go_ret
          exact ⟨rfl, hX⟩
        | false =>
          have hxm : x.length = m := by simp at hb2; omega
          have HS2 : RowKit.Hid (∀ (i : Nat) (z : List Int), i < k + 1 → S[i]? = some z → z.length = m) := Lib.hid fun i z h1 h2 => by
            rcases Nat.lt_or_eq_of_le (Nat.le_of_lt_succ h1) with h3 | rfl
            · exact HP.out i z h3 h2
            · obtain rfl := Option.some.inj (HY.out.symm.trans h2)
              exact hxm
          clear hxm
          go_wp2_with (go_at_call 27; refine kS0.mono ?_; rintro e v5 ⟨rfl, hv5⟩; obtain rfl := hv5)
          go_roundw
          case rel => exact ⟨k + 1, HK.out, by simp, HS2.out, hX⟩
          case measure => exact HM.out
      · have hr := HC.out HSN.out (fun i x h => HP.out i x (List.getElem?_eq_some_iff.1 h).1 h)
        subst hr
        have kL := shListN_ok S _ w3 (hS.below hX) hn hs
        have kF := fun W (v : Value) (h : SlI W v (S.map fun x => allE x 0 999999999)) => shFirstL (S.map fun x => allE x 0 999999999) v W h (by simpa using hn)
        have hml : (S.map fun x => allE x 0 999999999).length = S.length := List.length_map ..
        obtain ⟨E, hE⟩ : ∃ E, E = S.map (fun x => allE x 0 999999999) := ⟨_, rfl⟩
        rw [← hE] at kL hml
        simp only [← hE] at kF
        have HEE := Lib.hid hE
        clear hE
        have hsl : ∀ W B, B < W.heap.size → IAt W B 0 E → SlI W (.slice (some ⟨B, 0, none⟩) S.length S.length) E := fun W B h1 h2 => by
          rw [← hml]
          exact SlI.row h2 h1
        clear HB HC HP hml
        go_wp2_with (first
          | (go_at_call 51; refine kL.mono ?_; rintro e w4 ⟨B, rfl, hB1, hB2, hB3⟩; have hX4 := hX.trans (hB3.mono hX.size))
          | (go_at_call 19; refine (kF _ _ (hsl _ _ hB1 hB2)).mono ?_; rintro e w5 ⟨rfl, hB5⟩))
        go_ret
        refine ⟨?_, hX4.trans (hB5.mono hX4.size)⟩
        rw [← HEE.out]
        rfl
end Go.Proofs
end
