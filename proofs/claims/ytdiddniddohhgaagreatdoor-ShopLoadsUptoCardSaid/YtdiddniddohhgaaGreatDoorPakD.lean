/- Loads: CheckLoads and Loads of shop. -/
import Derived.Test.YtdiddniddohhgaaGreatDoorPakC
namespace Go.Proofs
open Go.RowKit Go.MapKept
set_option maxHeartbeats 16000000
set_option maxRecDepth 1000000
theorem iteN_ok (cp n : Int) (v : Value) (l : List ItemT) (w : World) (hl : SlF encQ w v l) (hx : IteX cp l n) :
    Calls Tryz.prog 17 #[v, .int .i64 cp] w fun e w' => e = .returned (.int .i64 n) ∧ Below w.heap.size w w' :=
  (shIteX_ok cp v l w hl).mono fun e w' ⟨k, he, hk, hb⟩ => ⟨by rw [he, hk.same hx], hb⟩
theorem iteR_ok (cp n : Int) (v : Value) (l : List ItemT) (w : World) (hl : SlF encQ w v l) (hx : IteX cp l n) :
    Calls Tryz.prog 11 #[v, .int .i64 cp] w fun e w' => e = .returned (.int .i64 n) ∧ Below w.heap.size w w' :=
  (refIteX_ok cp v l w hl).mono fun e w' ⟨k, he, hk, hb⟩ => ⟨by rw [he, hk.same hx], hb⟩
theorem wr0 : or3 0 0 0 = 0 := rfl
/-- What CheckLoads says of items without an error. -/
noncomputable def chkL (cp : Int) (l : List ItemT) (ns : List Int) : Int × Int := if ns.length ≠ l.length then (0, 2) else ((packP cp l ns).2.length, (packP cp l ns).1)
theorem chkLoads_ok (cp n : Int) (l : List ItemT) (ns : List Int) (v vn : Value) (w : World) (hl : SlF encQ w v l) (hi : SlI w vn ns) (hx : IteX cp l n) :
    Calls Tryz.prog 8 #[v, .int .i64 cp, vn] w fun e w' => e = .returned (if n = 0 then .tuple #[.int .i64 (chkL cp l ns).1, .int .i64 (chkL cp l ns).2] else .tuple #[.int .i64 0, .int .i64 n]) ∧ Below w.heap.size w w' := by
  have kI := iteN_ok cp n v l w hl hx
  obtain ⟨bl, hbl⟩ : ∃ b, ((ns.length : Int) != (l.length : Int)) = b := ⟨_, rfl⟩
  obtain ⟨y, hy⟩ : ∃ y : Int, y = (if bl = true then 2 else 0) := ⟨_, rfl⟩
  have hw := fun W => shWhen_ok bl 2 W
  rw [← hy] at hw
  obtain ⟨er, her⟩ : ∃ er, er = or3 n y 0 := ⟨_, rfl⟩
  have ho := fun blk W => shFirst2 n y blk 2 W
  rw [← her] at ho
  have hF : (er = 0 ∧ n = 0 ∧ ns.length = l.length) ∨ (er ≠ 0 ∧ n = er) ∨ (er ≠ 0 ∧ n = 0 ∧ ns.length ≠ l.length ∧ er = 2) := by
    rw [her, hy]
    unfold or3
    by_cases hn : n = 0
    · cases bl with
      | true => exact .inr (.inr ⟨by simp [hn], hn, fun e => by rw [e] at hbl; simp at hbl, by simp [hn]⟩)
      | false => exact .inl ⟨by simp [hn], hn, by have : (ns.length : Int) = l.length := by simpa using hbl
                                                  omega⟩
    · exact .inr (.inl ⟨by simp [hn], by simp [hn]⟩)
  obtain ⟨Al, cl, rfl⟩ := hl.form
  obtain ⟨An, cn, rfl⟩ := hi.form
  have HL := Lib.hid hl
  have HI := Lib.hid hi
  have HX := Lib.hid hx
  clear her hy hl hi hx
  rcases hF with ⟨rfl, hn0, hlen⟩ | hF
  · have hok := (hn0 ▸ HX.out : IteX cp l 0).ok
    have kP := fun V (h : Below w.heap.size w V) => packed_ok cp l ns _ _ V (HL.out.below h) (HI.out.below h) hok.cr.2 (fun x hx => by have := hok.at_ x hx; have := hok.cr; omega) (by omega) hok.few
    have hc : chkL cp l ns = (((packP cp l ns).2.length : Int), (packP cp l ns).1) := by unfold chkL; rw [if_neg (fun h => h hlen)]
    rw [if_pos hn0, hc]
    have HKP := Lib.hid kP
    clear hok kP hc hlen hn0 HX HL HI
    go_enter Tryz.func8, Tryz.ntmps8
    go_wp2_with (first
      | (go_at_call 17; refine kI.mono ?_; rintro e w1 ⟨rfl, hB1⟩)
      | (go_at_call 40; refine (hw _).mono ?_; rintro e w4 ⟨rfl, hw4⟩; obtain rfl : w1 = w4 := hw4.symm)
      | (go_at_call 39; refine (ho _ _ ?_ ?_).mono ?_; (go_simp); (go_simp); rintro e w5 ⟨rfl, hw5⟩)
      | (go_at_call 41; have hX := hB1.alloc hB1.size (.cells #[.int .i64 n, .int .i64 y] 28); refine (HKP.out _ hX).mono ?_; rintro e w6 ⟨⟨A6, c6, rfl⟩, hB6⟩))
    go_ret2
    exact ⟨rfl, hX.trans (hB6.mono hX.size)⟩
  · have hne : er ≠ 0 := by rcases hF with h | h; exact h.1; exact h.1
    have hre : (er != 0) = true := by simpa using hne
    have hres : (if n = 0 then Value.tuple #[.int .i64 (chkL cp l ns).1, .int .i64 (chkL cp l ns).2] else .tuple #[.int .i64 0, .int .i64 n]) = .tuple #[.int .i64 0, .int .i64 er] := by
      rcases hF with ⟨h1, h2⟩ | ⟨h1, h2, h3, h4⟩
      · rw [if_neg (by rw [h2]; exact h1), h2]
      · rw [if_pos h2, h4]
        unfold chkL
        rw [if_pos h3]
    rw [hres]
    clear hF hne hres HX HL HI
    go_enter Tryz.func8, Tryz.ntmps8
    go_wp2_with (first
      | (go_at_call 17; refine kI.mono ?_; rintro e w1 ⟨rfl, hB1⟩)
      | (go_at_call 40; refine (hw _).mono ?_; rintro e w4 ⟨rfl, hw4⟩; obtain rfl : w1 = w4 := hw4.symm)
      | (go_at_call 39; refine (ho _ _ ?_ ?_).mono ?_; (go_simp); (go_simp); rintro e w5 ⟨rfl, hw5⟩))
    go_ret2
    exact ⟨rfl, hB1.alloc hB1.size _⟩
theorem loadsE_ok (cp n er : Int) (l : List ItemT) (v : Value) (w : World) (hl : SlF encQ w v l) (hx : IteX cp l n) (he : or3 n (if 8 < l.length then 22 else 0) 0 = er) (hz : er ≠ 0) :
    Calls Tryz.prog 9 #[v, .int .i64 cp] w fun x w' => x = .returned (.tuple #[.slice none 0 0, .int .i64 er]) ∧ Below w.heap.size w w' := by
  have kI := iteN_ok cp n v l w hl hx
  obtain ⟨A, cap, rfl⟩ := hl.form
  obtain ⟨b8, hb8⟩ : ∃ b, decide ((8 : Int) < (l.length : Int)) = b := ⟨_, rfl⟩
  have hw := fun W => shWhen_ok b8 22 W
  obtain ⟨y, hy⟩ : ∃ y : Int, y = (if b8 = true then 22 else 0) := ⟨_, rfl⟩
  rw [← hy] at hw
  have hye : y = (if 8 < l.length then 22 else 0) := by
    rw [hy, ← hb8]
    by_cases h : 8 < l.length
    · rw [if_pos h, if_pos (decide_eq_true (by omega))]
    · rw [if_neg h, if_neg (by simp; omega)]
  rw [← hye] at he
  have ho := fun blk W => shFirst2 n y blk 2 W
  rw [he] at ho
  have hnz : (er != 0) = true := by simpa using hz
  clear hye hy he hz hl hx
  go_enter Tryz.func9, Tryz.ntmps9
  go_wp2_with (first
    | (go_at_call 17; refine kI.mono ?_; rintro e w1 ⟨rfl, hB1⟩)
    | (go_at_call 40; refine (hw _).mono ?_; rintro e w4 ⟨rfl, hw4⟩; obtain rfl : w1 = w4 := hw4.symm)
    | (go_at_call 39; refine (ho _ _ ?_ ?_).mono ?_; (go_simp); (go_simp); rintro e w5 ⟨rfl, hw5⟩))
  go_ret2
  exact ⟨rfl, hB1.alloc hB1.size _⟩
theorem loads_ok (cp : Int) (l : List ItemT) (v : Value) (w : World) (hl : SlF encQ w v l) (hx : IteX cp l 0) (h8 : l.length ≤ 8) :
    Calls Tryz.prog 9 #[v, .int .i64 cp] w fun e w' => (∃ (A : Option Addr) (c M : Nat) (b : List Int), e = .returned (.tuple #[.slice A l.length c, .int .i64 0]) ∧ SlI w' (.slice A l.length c) b ∧ BestL cp l M b ∧ M ≤ l.length) ∧ Below w.heap.size w w' := by
  have kI := iteN_ok cp 0 v l w hl hx
  have hok := hx.ok
  have kF := fun V M (h : Below w.heap.size w V) (hM : M ≤ 8) => firstList_ok cp l M v V (hl.below h) hok.cr.2 (fun x hx => by have := hok.at_ x hx; have := hok.cr; omega) h8 hM
  have hown := own_full (cap := cp) (l := l) fun x hx => (hok.at_ x hx).2
  obtain ⟨A, cap, rfl⟩ := hl.form
  have hb8 : decide ((8 : Int) < (l.length : Int)) = false := decide_eq_false (by omega)
  have hw := fun W => shWhen_ok false 22 W
  simp only [Bool.false_eq_true, if_false] at hw
  have ho := fun blk W => shFirst2 0 0 blk 2 W
  rw [wr0] at ho
  have HKF := Lib.hid kF
  have HOWN := Lib.hid hown
  have H8 := Lib.hid h8
  clear kF hown hok hl hx h8
  go_enter Tryz.func9, Tryz.ntmps9
  go_wp2_with (first
    | (go_at_call 17; refine kI.mono ?_; rintro e w1 ⟨rfl, hB1⟩)
    | (go_at_call 40; refine (hw _).mono ?_; rintro e w4 ⟨rfl, hw4⟩; obtain rfl : w1 = w4 := hw4.symm)
    | (go_at_call 39; refine (ho _ _ ?_ ?_).mono ?_; (go_simp); (go_simp); rintro e w5 ⟨rfl, hw5⟩))
  have hX := hB1.alloc hB1.size (.cells #[.int .i64 0, .int .i64 0] 28)
  have k0 := HKF.out _ 0 hX (by omega)
  have e0 : ((0 : Nat) : Int) = 0 := rfl
  rw [e0] at k0
  clear kI hw ho hb8 e0
  refine k0.mono ?_
  rintro e w6 ⟨hres, hB6⟩
  have hX6 := hX.trans (hB6.mono hX.size)
  clear k0 hX hB6 hB1
  have hst : ∃ (u : Value) (fb : Bool), e = .returned (.tuple #[u, .bool fb]) ∧ ((fb = true ∧ ∃ A c b, u = .slice A l.length c ∧ SlI w6 u b ∧ Full cp l 0 b ∧ NoB cp l 0 b 0) ∨ (fb = false ∧ ∀ y, ¬ Full cp l 0 y)) := by
    rcases hres with ⟨A2, c2, b2, e1, e2, e3, e4⟩ | ⟨e1, e2⟩
    · exact ⟨_, true, e1, .inl ⟨rfl, A2, c2, b2, rfl, e2, e3, e4⟩⟩
    · exact ⟨_, false, e1, .inr ⟨rfl, e2⟩⟩
  obtain ⟨u, fb, rfl, hfb⟩ := hst
  clear hres
  go_wp2_with fail
  go_loopw [7, 8, 9] (fun mv uv bv wr => ∃ (M : Nat) (b : Bool), mv = .int .i64 M ∧ M ≤ l.length ∧ bv = .bool b ∧ (∀ M' y, M' < M → ¬ Full cp l M' y) ∧ ((b = true ∧ ∃ A c x, uv = .slice A l.length c ∧ SlI wr uv x ∧ Full cp l M x ∧ NoB cp l M x 0) ∨ (b = false ∧ ∀ y, ¬ Full cp l M y)) ∧ Below w.heap.size w wr) (fun mv _ _ _ => l.length - (intOf mv).toNat)
  case atStart => exact ⟨0, fb, rfl, Nat.zero_le _, rfl, fun M' y h => absurd h (Nat.not_lt_zero M'), hfb, hX6⟩
  case round =>
    clear hfb hX6
    obtain ⟨M, b, rfl, hM, rfl, hno, hb, hX⟩ := hrel
    rename World => w7
    rcases hb with ⟨rfl, A2, c2, x, rfl, e2, e3, e4⟩ | ⟨rfl, hnf⟩
    · have HB : RowKit.Hid (BestL cp l M x) := Lib.hid ⟨e3, fun M' y h => by
        apply Classical.byContradiction
        intro h2
        exact hno M' y (by omega) h, e4⟩
      clear hno e3 e4
      go_wp2_with fail
      go_ret2
      exact ⟨⟨_, _, M, x, rfl, e2, HB.out, hM⟩, hX⟩
    · have hMl : M < l.length := by
        rcases Nat.lt_or_eq_of_le hM with h | rfl
        · exact h
        · exact absurd HOWN.out (hnf _)
      have h8 := H8.out
      have kk := HKF.out w7 (M + 1) hX (by omega)
      have wk1 : wrap64 ((M : Int) + 1) = ((M + 1 : Nat) : Int) := by rw [wrap64_small (by omega)]; simp
      have wk2 : IntKind.i64.wrap ((M : Int) + 1) = ((M + 1 : Nat) : Int) := by rw [wrap_small (by omega)]; simp
      have HNO : RowKit.Hid (∀ M' y, M' < M + 1 → ¬ Full cp l M' y) := Lib.hid fun M' y h => by
        rcases Nat.lt_or_eq_of_le (Nat.le_of_lt_succ h) with h2 | rfl
        · exact hno M' y h2
        · exact hnf y
      have HMM := Lib.hid (show M + 1 ≤ l.length ∧ l.length - (M + 1) < l.length - M from ⟨hMl, by omega⟩)
      clear hno hnf h8 hMl hM
      go_wp2_with fail
      refine kk.mono ?_
      rintro e w8 ⟨hres, hB8⟩
      have hX8 := hX.trans (hB8.mono hX.size)
      have hst : ∃ (u : Value) (fb : Bool), e = .returned (.tuple #[u, .bool fb]) ∧ ((fb = true ∧ ∃ A c b, u = .slice A l.length c ∧ SlI w8 u b ∧ Full cp l (M + 1) b ∧ NoB cp l (M + 1) b 0) ∨ (fb = false ∧ ∀ y, ¬ Full cp l (M + 1) y)) := by
        rcases hres with ⟨A2, c2, b2, e1, e2, e3, e4⟩ | ⟨e1, e2⟩
        · exact ⟨_, true, e1, .inl ⟨rfl, A2, c2, b2, rfl, e2, e3, e4⟩⟩
        · exact ⟨_, false, e1, .inr ⟨rfl, e2⟩⟩
      obtain ⟨u2, fb2, rfl, hfb⟩ := hst
      have HFB := Lib.hid hfb
      clear hres hB8 kk hfb
      go_wp2_with fail
      go_roundw
      case rel => exact ⟨M + 1, fb2, rfl, HMM.out.1, rfl, HNO.out, HFB.out, hX8⟩
      case measure => exact HMM.out.2
end Go.Proofs
