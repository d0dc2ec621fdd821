/- Jobs: the numbers of a schedule: lists of lists, the first error of many, checkNumbers of shop. -/
import Derived.Test.YtclmaobblnfplaaJbR
import Derived.Test.YtclmaobblnfplaaShdJ
namespace Go.Proofs
open Go.RowKit Go.MapKept
set_option maxHeartbeats 16000000
set_option maxRecDepth 1000000
def LLAt (w : World) (b o : Nat) (l : List (List Int)) : Prop := ∀ i x, l[i]? = some x → ∃ u, w.cell? ⟨b, o + i, none⟩ = some u ∧ SlI w u x
/-- A slice value that reads as a list of lists of ints. -/
def SlLL (w : World) (v : Value) (l : List (List Int)) : Prop :=
  (v = .slice none 0 0 ∧ l = []) ∨ ∃ (a : Addr) (cap : Nat), v = .slice (some a) l.length cap ∧ (l ≠ [] → a.spot = none ∧ a.block < w.heap.size ∧ LLAt w a.block a.off l)
theorem SlLL.below {w w' : World} {v : Value} {l : List (List Int)} (h : SlLL w v l) (hb : Below w.heap.size w w') : SlLL w' v l := by
  rcases h with h | ⟨a, cap, rfl, h⟩
  · exact .inl h
  · refine .inr ⟨a, cap, rfl, fun hl => ?_⟩
    obtain ⟨h1, h2, h3⟩ := h hl
    refine ⟨h1, Nat.lt_of_lt_of_le h2 hb.size, fun i x hi => ?_⟩
    obtain ⟨u, hu, hs⟩ := h3 i x hi
    exact ⟨u, (hb.cell (p := ⟨a.block, _, none⟩) h2).trans hu, hs.below hb⟩
theorem SlLL.form {w : World} {v : Value} {l : List (List Int)} (h : SlLL w v l) : ∃ (A : Option Addr) (cap : Nat), v = .slice A l.length cap := by
  rcases h with ⟨rfl, rfl⟩ | ⟨a, cap, rfl, _⟩
  · exact ⟨none, 0, rfl⟩
  · exact ⟨some a, cap, rfl⟩
theorem SlLL.cells {w : World} {A : Option Addr} {n cap : Nat} {l : List (List Int)} (h : SlLL w (.slice A n cap) l) {k : Nat} (hk : k < l.length) :
    ∃ b o x Ax cx, A = some ⟨b, o, none⟩ ∧ b < w.heap.size ∧ l[k]? = some x ∧ w.cell? ⟨b, o + k, none⟩ = some (.slice Ax x.length cx) ∧ SlI w (.slice Ax x.length cx) x := by
  rcases h with ⟨_, rfl⟩ | ⟨a, cap', e, h⟩
  · exact absurd hk (Nat.not_lt_zero k)
  · injection e with e1 e2 _
    obtain ⟨h1, h2, h3⟩ := h (fun e => by subst e; exact absurd hk (Nat.not_lt_zero k))
    obtain ⟨b, o, s⟩ := a
    obtain rfl : s = none := h1
    obtain ⟨u, hu, hs⟩ := h3 k _ (List.getElem?_eq_getElem hk)
    obtain ⟨Ax, cx, rfl⟩ := hs.form
    exact ⟨b, o, _, Ax, cx, e1, h2, List.getElem?_eq_getElem hk, hu, hs⟩
theorem orL_at : ∀ {l : List Int} {k : Nat} {x : Int}, (∀ (i : Nat) (y : Int), i < k → l[i]? = some y → y = 0) → l[k]? = some x → x ≠ 0 → orL l = x
  | [], k, x, _, h, _ => by simp at h
  | y :: l, 0, x, _, h, hx => by
    obtain rfl : y = x := by simpa using h
    unfold orL
    rw [if_pos hx]
  | y :: l, k + 1, x, h0, h, hx => by
    obtain rfl := h0 0 y (by omega) rfl
    unfold orL
    rw [if_neg (fun h => h rfl)]
    exact orL_at (k := k) (fun i z hi hz => h0 (i + 1) z (by omega) (by simpa using hz)) (by simpa using h) hx
theorem shFirstL (l : List Int) (v : Value) (w : World) (hl : SlI w v l) (hn : l.length ≤ 1000) :
    Calls Try.prog 19 #[v] w fun e w' => e = .returned (.int .i64 (orL l)) ∧ Below w.heap.size w w' := by
  obtain ⟨A, cap, rfl⟩ := hl.form
  have HA : RowKit.Hid (∀ (k : Nat) (x : Int), (∀ (i : Nat) (y : Int), i < k → l[i]? = some y → y = 0) → l[k]? = some x → x ≠ 0 → orL l = x) := Lib.hid fun k x h0 h h2 => orL_at h0 h h2
  have HD : RowKit.Hid ((∀ (i : Nat) (y : Int), l[i]? = some y → y = 0) → orL l = 0) := Lib.hid fun h => orL_eq0.2 fun e he => by
    obtain ⟨k, hk⟩ := List.mem_iff_getElem?.1 he
    exact h k e hk
  have hB0 := Below.refl w.heap.size w
  generalize orL l = r at HA HD ⊢
  go_enter Try.func19, Try.ntmps19
  go_wp2
  go_loopw [7] (fun i wr => ∃ k : Nat, k ≤ l.length ∧ i = .int .i64 k ∧ (∀ (i : Nat) (y : Int), i < k → l[i]? = some y → y = 0) ∧ Below w.heap.size w wr) (fun i _ => l.length - (intOf i).toNat)
  case atStart => exact ⟨0, Nat.zero_le _, rfl, fun j y h _ => absurd h (Nat.not_lt_zero j), hB0⟩
  case round =>
    clear hB0
    obtain ⟨k, hk, rfl, hp, hX⟩ := hrel
    rename World => w3
    have HP := Lib.hid hp
    clear hp
    rcases Nat.lt_or_eq_of_le hk with hkn | rfl
    · obtain ⟨b, o, y, rfl, -, hbl, hy, rk⟩ := (hl.below hX).cells hkn
      have hi0 : (0 : Int) ≤ k := by omega
      have hi1 : (k : Int) < l.length := by omega
      have HK := Lib.hid (show k + 1 ≤ l.length from hkn)
      have HM := Lib.hid (show l.length - (k + 1) < l.length - k by omega)
      obtain ⟨wk1, wk2⟩ := wrapsV (show k < 1048576 by omega)
      have HY := Lib.hid hy
      clear hy
      by_cases hz : y = 0
      · have HS : RowKit.Hid (∀ (i : Nat) (z : Int), i < k + 1 → l[i]? = some z → z = 0) := Lib.hid fun i z h1 h2 => by
          rcases Nat.lt_or_eq_of_le (Nat.le_of_lt_succ h1) with h3 | rfl
          · exact HP.out i z h3 h2
          · obtain rfl := Option.some.inj (HY.out.symm.trans h2)
            exact hz
        have hnz : (y != 0) = false := by simpa using hz
        clear hz
        go_wp2_with fail
        go_roundw
        case rel => exact ⟨k + 1, HK.out, by simp, HS.out, hX⟩
        case measure => exact HM.out
      · have hnz : (y != 0) = true := by simpa using hz
        have hr : r = y := HA.out k y HP.out HY.out hz
        subst hr
        clear hz
        go_wp2_with fail
        go_ret
        exact ⟨rfl, hX⟩
    · have hr : r = 0 := HD.out fun j y hy => HP.out j y (List.getElem?_eq_some_iff.1 hy).1 hy
      subst hr
      go_wp2_with fail
      go_ret
      exact ⟨rfl, hX⟩
theorem shNum1_ok (x : List Int) (v : Value) (w : World) (hl : SlI w v x) (hn : x.length ≤ 1000) :
    Calls Try.prog 52 #[v] w fun e w' => e = .returned (.int .i64 (allE x 0 999999999)) ∧ w' = w := by
  have kT := shAllX_ok x v 0 999999999 w hl (by omega)
  generalize allE x 0 999999999 = er at kT ⊢
  go_enter Try.func52, Try.ntmps52
  go_wp2_with (go_at_call 50; refine kT.mono ?_; rintro e w1 ⟨rfl, hw1⟩; obtain rfl := hw1)
  go_ret
  exact ⟨rfl, rfl⟩
theorem shListN_ok (S : List (List Int)) (v : Value) (w : World) (hl : SlLL w v S) (hn : S.length ≤ 1000) (hs : ∀ x ∈ S, x.length ≤ 1000) :
    Calls Try.prog 51 #[v, .func (.func 52) #[] #[]] w fun e w' => ∃ B, e = .returned (.slice (some ⟨B, 0, none⟩) S.length S.length) ∧ B < w'.heap.size ∧ IAt w' B 0 (S.map fun x => allE x 0 999999999) ∧ Below w.heap.size w w' := by
  obtain ⟨A, cap, rfl⟩ := hl.form
  obtain ⟨j0, hj, hy0, hy1, hy2⟩ := info_parts (P := Try.prog) (e := 37) (z := .int .i64 0) (size := 1) (bytes := 8) (by kernel_rfl)
  go_enter Try.func51, Try.ntmps51
  go_wp2_with (at_make; refine wpList_make_full _ rfl _ _ 71 rfl w.heap.size 37 j0 _ 1 Try.underlying71 hj hy0 hy1 .i64 .i64 _ _ S.length rfl rfl rfl rfl ?c1 ?c2 ?c3 ?_)
  case c1 => rw [hy2]; omega
  case c2 => unfold maxLen; omega
  case c3 => exact Nat.le_refl _
  intro w1 hown hgrow
  have hX2 : Below w.heap.size w w1 := (Below.refl _ _).grown hgrow (Nat.le_refl _) (fun k hk => by cases hk)
  have hK := RowK.made hown
  have hlen := hown.1
  clear hgrow hown
  generalize (madeCells #[Value.int .i64 0] S.length).toList = Z at hK hlen
  rw [Nat.mul_one] at hlen
  go_wp2
  go_loopw [13] (fun i wr => ∃ (k : Nat) (cs : List Value), k ≤ S.length ∧ i = .int .i64 k ∧ RowK wr 37 w.heap.size cs ∧ cs.length = S.length ∧ (∀ j c, j < k → S[j]? = some c → cs[j]? = some (.int .i64 (allE c 0 999999999))) ∧ Below w.heap.size w wr) (fun i _ => S.length - (intOf i).toNat)
  case atStart => exact ⟨0, Z, Nat.zero_le _, rfl, hK, hlen, fun j c hj _ => absurd hj (Nat.not_lt_zero j), hX2⟩
  case round =>
    clear hK hlen hX2 Z
    obtain ⟨k, cs, hk, rfl, hK, hlen, hall, hBw⟩ := hrel
    rcases Nat.lt_or_eq_of_le hk with hkn | rfl
    · obtain ⟨b, o, x, Ax, cx, rfl, hbl, hx, rk, hxs⟩ := (hl.below hBw).cells hkn
      have hi0 : (0 : Int) ≤ k := by omega
      have hi1 : (k : Int) < S.length := by omega
      obtain ⟨wk1, wk2⟩ := wrapsV (show k < 1048576 by omega)
      have hcal := shNum1_ok x _ wr hxs (hs x (List.mem_of_getElem? hx))
      obtain ⟨v0, hv0⟩ : ∃ v0, cs[k]? = some v0 := ⟨_, List.getElem?_eq_getElem (by omega)⟩
      have hres : ∀ (q : Int) (j : Nat) (c : List Int), q = allE x 0 999999999 → j < k + 1 → S[j]? = some c → (cs.set k (.int .i64 q))[j]? = some (.int .i64 (allE c 0 999999999)) := fun q j c hq hj hcj => by
        rcases Nat.lt_or_eq_of_le (Nat.le_of_lt_succ hj) with h1 | rfl
        · rw [List.getElem?_set_ne (by omega)]
          exact hall j c h1 hcj
        · obtain rfl := Option.some.inj (hx.symm.trans hcj)
          rw [List.getElem?_set_self (by omega), hq]
      clear hall
      generalize allE x 0 999999999 = q at hcal hres
      have hres := fun j c => hres q j c rfl
      have o0 := hK.cell hv0
      have fz := hK.fz k
      have HX := Lib.hid hx
      clear hx
      go_wp2_with (go_at_call 52; refine hcal.mono ?_; rintro e w2 ⟨rfl, hw2⟩; obtain rfl := hw2)
      go_roundw
      case rel => exact ⟨k + 1, _, hkn, by simp, hK.set k _, by simp [hlen], hres, hBw.setCell (p := ⟨w.heap.size, k, none⟩) (Nat.le_refl _) _⟩
      case measure => simp [intOf]; omega
    · go_wp2
      go_ret
      refine ⟨w.heap.size, rfl, hK.lt, fun i x hi => ?_, hBw⟩
      rw [List.getElem?_map] at hi
      obtain ⟨c, hc, rfl⟩ := Option.map_eq_some_iff.1 hi
      rw [Nat.zero_add]
      exact hK.cell (hall i c (List.getElem?_eq_some_iff.1 hc).1 hc)
end Go.Proofs
