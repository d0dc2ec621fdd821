import Derived.Test.YtpjmobpmpghpeaaGreatDoorShdF
import Derived.Laws.RangeString
import Derived.Laws.RangeAny
section
/- Shades: first, allWithin, checkColour, IsName, checkName of the program. -/
namespace Go.Proofs
open Go.RowKit
set_option maxHeartbeats 16000000
set_option maxRecDepth 1000000
def or3 (a b c : Int) : Int := if a ≠ 0 then a else if b ≠ 0 then b else c
theorem shWhen_ok (b : Bool) (n : Int) (w : World) : Calls Tryz.prog 60 #[.bool b, .int .i64 n] w fun e w' => e = .returned (.int .i64 (if b then n else 0)) ∧ w' = w := by
  cases b
  · go_enter Tryz.func60, Tryz.ntmps60
    go_wp2
    go_ret
    exact ⟨rfl, rfl⟩
  · go_enter Tryz.func60, Tryz.ntmps60
    go_wp2
    go_ret
    exact ⟨rfl, rfl⟩
theorem shFirst3 (a b c : Int) (blk cap : Nat) (w : World) (h0 : w.cell? ⟨blk, 0, none⟩ = some (.int .i64 a)) (h1 : w.cell? ⟨blk, 1, none⟩ = some (.int .i64 b)) (h2 : w.cell? ⟨blk, 2, none⟩ = some (.int .i64 c)) :
    Calls Tryz.prog 49 #[.slice (some ⟨blk, 0, none⟩) 3 cap] w fun e w' => e = .returned (.int .i64 (or3 a b c)) ∧ w' = w := by
  go_enter Tryz.func49, Tryz.ntmps49
  go_wp2
  refine wp_loop_rounds 4 ?_
  rw [rounds_succ]
  go_wp2
  all_goals (try (rw [rounds_succ]; go_wp2))
  all_goals (try (rw [rounds_succ]; go_wp2))
  all_goals (try (rw [rounds_succ]; go_wp2))
  all_goals go_ret
  all_goals (refine ⟨?_, rfl⟩; unfold or3; simp_all)
theorem shFirst2 (a b : Int) (blk cap : Nat) (w : World) (h0 : w.cell? ⟨blk, 0, none⟩ = some (.int .i64 a)) (h1 : w.cell? ⟨blk, 1, none⟩ = some (.int .i64 b)) :
    Calls Tryz.prog 49 #[.slice (some ⟨blk, 0, none⟩) 2 cap] w fun e w' => e = .returned (.int .i64 (or3 a b 0)) ∧ w' = w := by
  go_enter Tryz.func49, Tryz.ntmps49
  go_wp2
  refine wp_loop_rounds 3 ?_
  rw [rounds_succ]
  go_wp2
  all_goals (try (rw [rounds_succ]; go_wp2))
  all_goals (try (rw [rounds_succ]; go_wp2))
  all_goals go_ret
  all_goals (refine ⟨?_, rfl⟩; unfold or3; simp_all)
/-- Three numbers within a range. -/
theorem shAll3 (x y z lo hi : Int) (blk cap : Nat) (w : World) (h0 : w.cell? ⟨blk, 0, none⟩ = some (.int .i64 x)) (h1 : w.cell? ⟨blk, 1, none⟩ = some (.int .i64 y)) (h2 : w.cell? ⟨blk, 2, none⟩ = some (.int .i64 z)) (hok : ColOk (x, y, z) lo hi) :
    Calls Tryz.prog 65 #[.slice (some ⟨blk, 0, none⟩) 3 cap, .int .i64 lo, .int .i64 hi] w fun e w' => e = .returned (.int .i64 0) ∧ w' = w := by
  have c1 := fun W => shWithin_ok x lo hi W
  have c2 := fun W => shWithin_ok y lo hi W
  have c3 := fun W => shWithin_ok z lo hi W
  rw [(within_cases x lo hi).2.2.2 hok.1] at c1
  rw [(within_cases y lo hi).2.2.2 hok.2.1] at c2
  rw [(within_cases z lo hi).2.2.2 hok.2.2] at c3
  clear hok
  go_enter Tryz.func65, Tryz.ntmps65
  go_wp2
  refine wp_loop_rounds 4 ?_
  rw [rounds_succ]
  go_wp2_with (go_at_call 51; with_reducible refine (c1 _).mono ?_; rintro e w1 ⟨rfl, rfl⟩)
  rw [rounds_succ]
  go_wp2_with (go_at_call 51; with_reducible refine (c2 _).mono ?_; rintro e w2 ⟨rfl, rfl⟩)
  rw [rounds_succ]
  go_wp2_with (go_at_call 51; with_reducible refine (c3 _).mono ?_; rintro e w3 ⟨rfl, rfl⟩)
  rw [rounds_succ]
  go_wp2
  go_ret
  exact ⟨rfl, rfl⟩
theorem shColour_ok (c : Cel) (w : World) (hok : ColOk c 0 255) : Calls Tryz.prog 55 #[colV c] w fun e w' => e = .returned (.int .i64 0) ∧ Below w.heap.size w w' := by
  obtain ⟨x, y, z⟩ := c
  unfold colV
  dsimp only
  have hB : Below w.heap.size w (w.alloc (.cells #[.int .i64 x, .int .i64 y, .int .i64 z] 47)) := (Below.refl _ _).alloc (Nat.le_refl _) _
  have hc := fun cap => shAll3 x y z 0 255 w.heap.size cap (w.alloc (.cells #[.int .i64 x, .int .i64 y, .int .i64 z] 47)) (by go_simp) (by go_simp) (by go_simp) hok
  go_enter Tryz.func55, Tryz.ntmps55
  go_wp2_with (go_at_call 65; refine (hc _).mono ?_; rintro e w1 ⟨rfl, rfl⟩)
  go_ret
  exact ⟨rfl, hB⟩
theorem dec_cast (a b : Nat) : decide (a ≤ b) = decide ((a : Int) ≤ (b : Int)) := by simp
theorem shLetter_ok (c : Nat) (w : World) : Calls Tryz.prog 135 #[.int .i32 c] w fun e w' => e = .returned (.bool (letterB c)) ∧ w' = w := by
  obtain ⟨r, hr⟩ : ∃ r, r = letterB c := ⟨_, rfl⟩
  rw [← hr]
  unfold letterB at hr
  simp only [dec_cast] at hr
  go_enter Tryz.func135, Tryz.ntmps135
  by_cases h1 : (65 : Int) ≤ c <;> by_cases h2 : (c : Int) ≤ 90 <;> by_cases h3 : (97 : Int) ≤ c <;> by_cases h4 : (c : Int) ≤ 122 <;> (first | (exfalso; omega) | skip)
  all_goals (simp only [Int.cast_ofNat_Int, h1, h2, h3, h4, decide_true, decide_false, Bool.and_true, Bool.and_false, Bool.or_true, Bool.or_false] at hr; subst hr)
  all_goals go_wp2
  all_goals (try (exfalso; omega))
  all_goals go_ret
  all_goals (refine ⟨?_, rfl⟩; simp_all)
theorem dec_castE (a b : Nat) : decide (a = b) = decide ((a : Int) = (b : Int)) := by
  by_cases h : a = b
  · subst h; simp
  · have h2 : ¬ (a : Int) = (b : Int) := by omega
    simp only [h, h2, decide_false]
theorem shFurther_ok (c : Nat) (w : World) : Calls Tryz.prog 136 #[.int .i32 c] w fun e w' => e = .returned (.bool (furtherB c)) ∧ w' = w := by
  obtain ⟨r, hr⟩ : ∃ r, r = furtherB c := ⟨_, rfl⟩
  rw [← hr]
  unfold furtherB at hr
  simp only [dec_cast, dec_castE] at hr
  go_enter Tryz.func136, Tryz.ntmps136
  by_cases h1 : (48 : Int) ≤ c <;> by_cases h2 : (c : Int) ≤ 57 <;> by_cases h3 : (c : Int) = 95 <;> (first | (exfalso; omega) | skip)
  all_goals (simp only [Int.cast_ofNat_Int, h1, h2, h3, decide_true, decide_false, Bool.and_true, Bool.and_false, Bool.or_true, Bool.or_false] at hr; subst hr)
  all_goals go_wp2
  all_goals (try (exfalso; omega))
  all_goals go_ret
  all_goals (refine ⟨?_, rfl⟩; simp_all)
theorem name_nonempty {s : ByteArray} (h : 1 ≤ s.size) : s.toList ≠ [] := by
  intro e
  have h1 := ByteArray.toList_loop_eq s s.size 0 [] (by omega) (Nat.zero_le _)
  have h2 : s.toList = s.data.toList := by
    show ByteArray.toList.loop s 0 [] = _
    rw [h1]
    simp
  have h3 : s.data.toList.length = s.size := by cases s; rfl
  rw [← h2, e] at h3
  simp at h3
  omega
theorem letter_low {c : Nat} (h : letterB c = true ∨ furtherB c = true) : c < 128 := by
  unfold letterB furtherB at h
  simp only [Bool.or_eq_true, Bool.and_eq_true, decide_eq_true_eq] at h
  omega
theorem shName_ok (s : ByteArray) (w : World) (hs : NameOk s) : Calls Tryz.prog 104 #[.string s] w fun e w' => e = .returned (.bool true) ∧ Below w.heap.size w w' := by
  obtain ⟨hs1, hs2, hs3⟩ := hs
  have hs5 : (s.size : Int) ≤ 24 := by omega
  have hs4 := name_nonempty hs1
  have hs6 : s.toList.isEmpty = false := by
    cases h : s.toList with
    | nil => exact absurd h hs4
    | cons _ _ => rfl
  have hB : ∀ k, Below w.heap.size w (w.iter s k) := fun k => (Below.refl _ _).alloc (Nat.le_refl _) _
  go_enter Tryz.func104, Tryz.ntmps104
  go_wp2
  clear hs4 hs6
  go_loopw [] (fun wr => ∃ pos : Nat, pos ≤ s.size ∧ wr = w.iter s pos) (fun wr => s.size - wr.iterPos w.heap.size)
  case atStart => exact ⟨0, Nat.zero_le _, rfl⟩
  case round =>
    obtain ⟨pos, hpos, rfl⟩ := hrel
    rcases Nat.lt_or_eq_of_le hpos with hp | rfl
    · have hlow : (s[pos]'hp).toNat < 128 := letter_low ((hs3 pos hp).imp id (fun h => h.2))
      have hnx : ∀ ty, (Instr.next (.pointer (some ⟨w.heap.size, 0, none⟩)) true ty).run Tryz.prog (w.iter s pos) = _ := fun ty => run_next_ascii w s pos ty hp hlow
      have hl := fun W => shLetter_ok (s[pos]'hp).toNat W
      have hf := fun W => shFurther_ok (s[pos]'hp).toNat W
      have h3 := hs3 pos hp
      generalize (s[pos]'hp).toNat = c at hnx hl hf h3
      generalize letterB c = lb at hl h3
      generalize furtherB c = fb at hf h3
      have hne : pos = 0 ∨ ((pos : Int) == 0) = false := by
        rcases Nat.eq_zero_or_pos pos with h | h
        · exact .inl h
        · exact .inr (by simp; omega)
      cases lb with
      | true =>
        clear h3 hf hne
        go_wp2_with (go_at_call 135; refine (hl _).mono ?_; rintro e w5 ⟨rfl, rfl⟩)
        go_roundw
        case rel => exact ⟨pos + 1, hp, rfl⟩
        case measure => simp; omega
      | false =>
        obtain ⟨h4, rfl⟩ : pos ≠ 0 ∧ fb = true := by
          rcases h3 with h | h
          · cases h
          · exact h
        have hne := hne.resolve_left h4
        clear h3
        go_wp2_with (first | (go_at_call 135; refine (hl _).mono ?_; rintro e w5 ⟨rfl, rfl⟩) | (go_at_call 136; refine (hf _).mono ?_; rintro e w5 ⟨rfl, rfl⟩))
        go_roundw
        case rel => exact ⟨pos + 1, hp, rfl⟩
        case measure => simp; omega
    · have hnx : ∀ ty, (Instr.next (.pointer (some ⟨w.heap.size, 0, none⟩)) true ty).run Tryz.prog (w.iter s s.size) = _ := fun ty => run_next_end w s s.size ty (Nat.lt_irrefl _)
      go_wp2
      go_ret
      exact ⟨rfl, hB _⟩
end Go.Proofs
end

section
/- Names, exactly: IsName of the reference and of the program tell the same of every string. -/
namespace Go.Proofs
open Go.RowKit
set_option maxHeartbeats 16000000
set_option maxRecDepth 1000000
open Classical in
noncomputable def nameB (s : ByteArray) : Bool := decide (NameOk s)
theorem nameB_true {s : ByteArray} (h : NameOk s) : nameB s = true := by unfold nameB; simp [h]
theorem nameB_false {s : ByteArray} (h : ¬ NameOk s) : nameB s = false := by unfold nameB; simp [h]
theorem nameB_ok {s : ByteArray} : nameB s = true ↔ NameOk s := by unfold nameB; simp
theorem name_bad {s : ByteArray} {k : Nat} (hk : k < s.size) (h1 : letterB (s[k]'hk).toNat = false) (h2 : k = 0 ∨ furtherB (s[k]'hk).toNat = false) : nameB s = false := nameB_false fun h => by
  rcases h.2.2 k hk with h3 | ⟨h3, h4⟩
  · rw [h1] at h3; cases h3
  · rcases h2 with h2 | h2
    · exact h3 h2
    · rw [h2] at h4; cases h4
theorem refNameT_ok (s : ByteArray) (w : World) (hs : NameOk s) : Calls Tryz.prog 15 #[.string s] w fun e w' => e = .returned (.bool true) ∧ w' = w := by
  obtain ⟨hs1, hs2, hs3⟩ := hs
  go_enter Tryz.func15, Tryz.ntmps15
  go_wp2
  all_goals (try (exfalso; omega))
  go_loopw [3] (fun i wr => ∃ k : Nat, k ≤ s.size ∧ i = .int .i64 k ∧ wr = w) (fun i _ => s.size - (intOf i).toNat)
  case atStart => exact ⟨0, Nat.zero_le _, rfl, rfl⟩
  case round =>
    obtain ⟨k, hk, rfl, rfl⟩ := hrel
    rcases Nat.lt_or_eq_of_le hk with hkn | rfl
    · have hi0 : (0 : Int) ≤ k := by omega
      have hi1 : (k : Int) < s.size := by omega
      have h3 := hs3 k hkn
      simp only [letterB, furtherB, Bool.or_eq_true, Bool.and_eq_true, decide_eq_true_eq] at h3
      clear hs3
      go_wp2
      all_goals (first
        | (refine ⟨⟨k + 1, hkn, by simp_all, by first | trivial | rfl⟩, by simp_all [intOf] <;> omega⟩; done)
        | (exfalso; simp_all; try omega))
    · go_wp2
      go_ret
      exact ⟨rfl, rfl⟩
theorem refNameX_ok (s : ByteArray) (w : World) : Calls Tryz.prog 15 #[.string s] w fun e w' => e = .returned (.bool (nameB s)) ∧ w' = w := by
  by_cases hs : NameOk s
  · rw [nameB_true hs]
    exact refNameT_ok s w hs
  · rw [nameB_false hs]
    refine (refName_ok s w).mono ?_
    rintro e w' ⟨r, rfl, hr, rfl⟩
    cases r with
    | true => exact absurd (hr rfl) hs
    | false => exact ⟨rfl, rfl⟩
theorem letter_high {c : Nat} (h : 128 ≤ c) : letterB c = false ∧ furtherB c = false := by
  unfold letterB furtherB
  constructor <;> simp <;> omega
theorem shNameX_ok (s : ByteArray) (w : World) : Calls Tryz.prog 104 #[.string s] w fun e w' => e = .returned (.bool (nameB s)) ∧ Below w.heap.size w w' := by
  by_cases hs : NameOk s
  · rw [nameB_true hs]
    exact shName_ok s w hs
  by_cases h0 : s.size = 0
  · have hs6 : s.toList.isEmpty = true := by
      have h2 : s.toList = s.data.toList := by
        show ByteArray.toList.loop s 0 [] = _
        rw [ByteArray.toList_loop_eq s s.size 0 [] (by omega) (Nat.zero_le _)]
        simp
      rw [h2]
      have h3 : s.data.toList.length = s.size := by cases s; rfl
      rw [h0] at h3
      rw [List.eq_nil_of_length_eq_zero h3]
      rfl
    rw [nameB_false hs]
    go_enter Tryz.func104, Tryz.ntmps104
    go_wp2
    go_ret
    exact ⟨rfl, Below.refl _ _⟩
  have hs4 := name_nonempty (s := s) (by omega)
  have hs6 : s.toList.isEmpty = false := by
    cases h : s.toList with
    | nil => exact absurd h hs4
    | cons _ _ => rfl
  by_cases h24 : s.size ≤ 24
  · have hs5 : (s.size : Int) ≤ 24 := by omega
    have hB : ∀ k, Below w.heap.size w (w.iter s k) := fun k => (Below.refl _ _).alloc (Nat.le_refl _) _
    have hr : nameB s = false := nameB_false hs
    go_enter Tryz.func104, Tryz.ntmps104
    go_wp2
    clear hs4 hs6
    go_loopw [] (fun wr => ∃ pos : Nat, pos ≤ s.size ∧ wr = w.iter s pos ∧ PreName s pos) (fun wr => s.size - wr.iterPos w.heap.size)
    case atStart => exact ⟨0, Nat.zero_le _, rfl, fun i h hi => absurd hi (Nat.not_lt_zero i)⟩
    case round =>
      obtain ⟨pos, hpos, rfl, hp⟩ := hrel
      rcases Nat.lt_or_eq_of_le hpos with hpn | rfl
      · have hlf : ∃ (c n : Nat) (lb fb : Bool), (Utf8.decode s pos) = (c, n) ∧ letterB c = lb ∧ furtherB c = fb ∧ ((lb = true ∨ (pos ≠ 0 ∧ fb = true)) → n = 1 ∧ PreName s (pos + 1)) := by
          obtain ⟨c, n, hd⟩ : ∃ c n, Utf8.decode s pos = (c, n) := ⟨_, _, rfl⟩
          refine ⟨c, n, letterB c, furtherB c, hd, rfl, rfl, fun h => ?_⟩
          by_cases hc : (s[pos]'hpn).toNat < 128
          · rw [decode_ascii s pos hpn hc] at hd
            injection hd with h1 h2
            subst h1 h2
            exact ⟨rfl, pre_step hp hpn h⟩
          · exfalso
            have h5 := (decode_high s pos hpn (by omega)).1
            rw [hd] at h5
            obtain ⟨e1, e2⟩ := letter_high h5
            rw [e1, e2] at h
            simp at h
        obtain ⟨c, n, lb, fb, hd, hlb, hfb, hgo⟩ := hlf
        have hnx : ∀ ty, (Instr.next (.pointer (some ⟨w.heap.size, 0, none⟩)) true ty).run Tryz.prog (w.iter s pos) = .ok (.tuple #[.bool true, .int .i64 pos, .int .i32 c]) (w.iter s (pos + n)) := fun ty => by
          have := run_next_any (P := Tryz.prog) w s pos ty hpn
          rw [hd] at this
          exact this
        have hl := fun W => shLetter_ok c W
        have hf := fun W => shFurther_ok c W
        rw [hlb] at hl
        rw [hfb] at hf
        clear hd hlb hfb
        have hne : pos = 0 ∨ (pos ≠ 0 ∧ ((pos : Int) == 0) = false) := by
          rcases Nat.eq_zero_or_pos pos with h | h
          · exact .inl h
          · exact .inr ⟨by omega, by simp; omega⟩
        cases lb with
        | true =>
          obtain ⟨rfl, hq⟩ := hgo (.inl rfl)
          clear hgo hf hne
          go_wp2_with (go_at_call 135; refine (hl _).mono ?_; rintro e w5 ⟨rfl, rfl⟩)
          go_roundw
          case rel => exact ⟨pos + 1, hpn, rfl, hq⟩
          case measure => simp; omega
        | false =>
          rcases hne with rfl | ⟨hn0, hne⟩
          · clear hgo hf
            go_wp2_with (go_at_call 135; refine (hl _).mono ?_; rintro e w5 ⟨rfl, rfl⟩)
            go_ret
            exact ⟨by rw [hr]; rfl, hB _⟩
          · cases fb with
            | true =>
              obtain ⟨rfl, hq⟩ := hgo (.inr ⟨hn0, rfl⟩)
              clear hgo
              go_wp2_with (first | (go_at_call 135; refine (hl _).mono ?_; rintro e w5 ⟨rfl, rfl⟩) | (go_at_call 136; refine (hf _).mono ?_; rintro e w5 ⟨rfl, rfl⟩))
              go_roundw
              case rel => exact ⟨pos + 1, hpn, rfl, hq⟩
              case measure => simp; omega
            | false =>
              clear hgo
              go_wp2_with (first | (go_at_call 135; refine (hl _).mono ?_; rintro e w5 ⟨rfl, rfl⟩) | (go_at_call 136; refine (hf _).mono ?_; rintro e w5 ⟨rfl, rfl⟩))
              go_ret
              exact ⟨by rw [hr]; rfl, hB _⟩
      · exact absurd ⟨by omega, by omega, fun i h => hp i h h⟩ hs
  · have hs5 : ¬ (s.size : Int) ≤ 24 := by omega
    rw [nameB_false hs]
    go_enter Tryz.func104, Tryz.ntmps104
    go_wp2
    go_ret
    exact ⟨rfl, Below.refl _ _⟩
theorem shCheckNameX_ok (s : ByteArray) (w : World) : Calls Tryz.prog 50 #[.string s] w fun e w' => e = .returned (.int .i64 (if nameB s then 0 else 8)) ∧ Below w.heap.size w w' := by
  have h1 := shNameX_ok s w
  generalize nameB s = b at h1 ⊢
  cases b with
  | true =>
    have h2 := fun W => shWhen_ok false 8 W
    simp only [Bool.false_eq_true, if_false] at h2
    simp only [if_true]
    go_enter Tryz.func50, Tryz.ntmps50
    go_wp2_with (first | (go_at_call 104; refine h1.mono ?_; rintro e w1 ⟨rfl, hB1⟩) | (go_at_call 60; refine (h2 _).mono ?_; rintro e w2 ⟨rfl, rfl⟩))
    go_ret
    exact ⟨rfl, hB1⟩
  | false =>
    have h2 := fun W => shWhen_ok true 8 W
    simp only [if_true] at h2
    simp only [Bool.false_eq_true, if_false]
    go_enter Tryz.func50, Tryz.ntmps50
    go_wp2_with (first | (go_at_call 104; refine h1.mono ?_; rintro e w1 ⟨rfl, hB1⟩) | (go_at_call 60; refine (h2 _).mono ?_; rintro e w2 ⟨rfl, rfl⟩))
    go_ret
    exact ⟨rfl, hB1⟩
end Go.Proofs
end
