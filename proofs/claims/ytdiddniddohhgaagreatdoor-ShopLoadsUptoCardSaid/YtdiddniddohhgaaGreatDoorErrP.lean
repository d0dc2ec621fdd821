import Derived.Test.YtdiddniddohhgaaGreatDoorShdH
import Derived.Laws.RangeAny
section
/- Names, exactly: IsName of the reference and of the program tell the same of every string. -/
namespace Go.Proofs
open Go.RowKit
set_option maxHeartbeats 16000000
set_option maxRecDepth 1000000
open Classical in
noncomputable def nameB (s : ByteArray) : Bool := decide (NameOk s)
theorem nameB_true {s : ByteArray} (h : NameOk s) : nameB s = true := by unfold nameB; simp [h]
theorem nameB_false {s : ByteArray} (h : ¬ NameOk s) : nameB s = false := by unfold nameB; simp [h]
theorem nameB_ok {s : ByteArray} : nameB s = true ↔ NameOk s := by unfold nameB; simp
theorem name_bad {s : ByteArray} {k : Nat} (hk : k < s.size) (h1 : letterB (s[k]'hk).toNat = false) (h2 : k = 0 ∨ furtherB (s[k]'hk).toNat = false) : nameB s = false := nameB_false fun h => by
  rcases h.2.2 k hk with h3 | ⟨h3, h4⟩
  · rw [h1] at h3; cases h3
  · rcases h2 with h2 | h2
    · exact h3 h2
    · rw [h2] at h4; cases h4
theorem refNameT_ok (s : ByteArray) (w : World) (hs : NameOk s) : Calls Tryz.prog 45 #[.string s] w fun e w' => e = .returned (.bool true) ∧ w' = w := by
  obtain ⟨hs1, hs2, hs3⟩ := hs
  go_enter Tryz.func45, Tryz.ntmps45
  go_wp2
  all_goals (try (exfalso; omega))
  go_loopw [3] (fun i wr => ∃ k : Nat, k ≤ s.size ∧ i = .int .i64 k ∧ wr = w) (fun i _ => s.size - (intOf i).toNat)
  case atStart => exact ⟨0, Nat.zero_le _, rfl, rfl⟩
  case round =>
    obtain ⟨k, hk, rfl, rfl⟩ := hrel
    rcases Nat.lt_or_eq_of_le hk with hkn | rfl
    · have hi0 : (0 : Int) ≤ k := by omega
      have hi1 : (k : Int) < s.size := by omega
      have h3 := hs3 k hkn
      simp only [letterB, furtherB, Bool.or_eq_true, Bool.and_eq_true, decide_eq_true_eq] at h3
      clear hs3
      go_wp2
      all_goals (first
        | (refine ⟨⟨k + 1, hkn, by simp_all, by first | trivial | rfl⟩, by simp_all [intOf] <;> omega⟩; done)
        | (exfalso; simp_all; try omega))
    · go_wp2
      go_ret
      exact ⟨rfl, rfl⟩
theorem refNameX_ok (s : ByteArray) (w : World) : Calls Tryz.prog 45 #[.string s] w fun e w' => e = .returned (.bool (nameB s)) ∧ w' = w := by
  by_cases hs : NameOk s
  · rw [nameB_true hs]
    exact refNameT_ok s w hs
  · rw [nameB_false hs]
    refine (refName_ok s w).mono ?_
    rintro e w' ⟨r, rfl, hr, rfl⟩
    cases r with
    | true => exact absurd (hr rfl) hs
    | false => exact ⟨rfl, rfl⟩
theorem letter_high {c : Nat} (h : 128 ≤ c) : letterB c = false ∧ furtherB c = false := by
  unfold letterB furtherB
  constructor <;> simp <;> omega
theorem shNameX_ok (s : ByteArray) (w : World) : Calls Tryz.prog 99 #[.string s] w fun e w' => e = .returned (.bool (nameB s)) ∧ Below w.heap.size w w' := by
  by_cases hs : NameOk s
  · rw [nameB_true hs]
    exact shName_ok s w hs
  by_cases h0 : s.size = 0
  · have hs6 : s.toList.isEmpty = true := by
      have h2 : s.toList = s.data.toList := by
        show ByteArray.toList.loop s 0 [] = _
        rw [ByteArray.toList_loop_eq s s.size 0 [] (by omega) (Nat.zero_le _)]
        simp
      rw [h2]
      have h3 : s.data.toList.length = s.size := by cases s; rfl
      rw [h0] at h3
      rw [List.eq_nil_of_length_eq_zero h3]
      rfl
    rw [nameB_false hs]
    go_enter Tryz.func99, Tryz.ntmps99
    go_wp2
    go_ret
    exact ⟨rfl, Below.refl _ _⟩
  have hs4 := name_nonempty (s := s) (by omega)
  have hs6 : s.toList.isEmpty = false := by
    cases h : s.toList with
    | nil => exact absurd h hs4
    | cons _ _ => rfl
  by_cases h24 : s.size ≤ 24
  · have hs5 : (s.size : Int) ≤ 24 := by omega
    have hB : ∀ k, Below w.heap.size w (w.iter s k) := fun k => (Below.refl _ _).alloc (Nat.le_refl _) _
    have hr : nameB s = false := nameB_false hs
    go_enter Tryz.func99, Tryz.ntmps99
    go_wp2
    clear hs4 hs6
    go_loopw [] (fun wr => ∃ pos : Nat, pos ≤ s.size ∧ wr = w.iter s pos ∧ PreName s pos) (fun wr => s.size - wr.iterPos w.heap.size)
    case atStart => exact ⟨0, Nat.zero_le _, rfl, fun i h hi => absurd hi (Nat.not_lt_zero i)⟩
    case round =>
      obtain ⟨pos, hpos, rfl, hp⟩ := hrel
      rcases Nat.lt_or_eq_of_le hpos with hpn | rfl
      · have hlf : ∃ (c n : Nat) (lb fb : Bool), (Utf8.decode s pos) = (c, n) ∧ letterB c = lb ∧ furtherB c = fb ∧ ((lb = true ∨ (pos ≠ 0 ∧ fb = true)) → n = 1 ∧ PreName s (pos + 1)) := by
          obtain ⟨c, n, hd⟩ : ∃ c n, Utf8.decode s pos = (c, n) := ⟨_, _, rfl⟩
          refine ⟨c, n, letterB c, furtherB c, hd, rfl, rfl, fun h => ?_⟩
          by_cases hc : (s[pos]'hpn).toNat < 128
          · rw [decode_ascii s pos hpn hc] at hd
            injection hd with h1 h2
            subst h1 h2
            exact ⟨rfl, pre_step hp hpn h⟩
          · exfalso
            have h5 := (decode_high s pos hpn (by omega)).1
            rw [hd] at h5
            obtain ⟨e1, e2⟩ := letter_high h5
            rw [e1, e2] at h
            simp at h
        obtain ⟨c, n, lb, fb, hd, hlb, hfb, hgo⟩ := hlf
        have hnx : ∀ ty, (Instr.next (.pointer (some ⟨w.heap.size, 0, none⟩)) true ty).run Tryz.prog (w.iter s pos) = .ok (.tuple #[.bool true, .int .i64 pos, .int .i32 c]) (w.iter s (pos + n)) := fun ty => by
          have := run_next_any (P := Tryz.prog) w s pos ty hpn
          rw [hd] at this
          exact this
        have hl := fun W => shLetter_ok c W
        have hf := fun W => shFurther_ok c W
        rw [hlb] at hl
        rw [hfb] at hf
        clear hd hlb hfb
        have hne : pos = 0 ∨ (pos ≠ 0 ∧ ((pos : Int) == 0) = false) := by
          rcases Nat.eq_zero_or_pos pos with h | h
          · exact .inl h
          · exact .inr ⟨by omega, by simp; omega⟩
        cases lb with
        | true =>
          obtain ⟨rfl, hq⟩ := hgo (.inl rfl)
          clear hgo hf hne
          go_wp2_with (go_at_call 129; refine (hl _).mono ?_; rintro e w5 ⟨rfl, rfl⟩)
          go_roundw
          case rel => exact ⟨pos + 1, hpn, rfl, hq⟩
          case measure => simp; omega
        | false =>
          rcases hne with rfl | ⟨hn0, hne⟩
          · clear hgo hf
            go_wp2_with (go_at_call 129; refine (hl _).mono ?_; rintro e w5 ⟨rfl, rfl⟩)
            go_ret
            exact ⟨by rw [hr]; rfl, hB _⟩
          · cases fb with
            | true =>
              obtain ⟨rfl, hq⟩ := hgo (.inr ⟨hn0, rfl⟩)
              clear hgo
              go_wp2_with (first | (go_at_call 129; refine (hl _).mono ?_; rintro e w5 ⟨rfl, rfl⟩) | (go_at_call 130; refine (hf _).mono ?_; rintro e w5 ⟨rfl, rfl⟩))
              go_roundw
              case rel => exact ⟨pos + 1, hpn, rfl, hq⟩
              case measure => simp; omega
            | false =>
              clear hgo
              go_wp2_with (first | (go_at_call 129; refine (hl _).mono ?_; rintro e w5 ⟨rfl, rfl⟩) | (go_at_call 130; refine (hf _).mono ?_; rintro e w5 ⟨rfl, rfl⟩))
              go_ret
              exact ⟨by rw [hr]; rfl, hB _⟩
      · exact absurd ⟨by omega, by omega, fun i h => hp i h h⟩ hs
  · have hs5 : ¬ (s.size : Int) ≤ 24 := by omega
    rw [nameB_false hs]
    go_enter Tryz.func99, Tryz.ntmps99
    go_wp2
    go_ret
    exact ⟨rfl, Below.refl _ _⟩
theorem shCheckNameX_ok (s : ByteArray) (w : World) : Calls Tryz.prog 48 #[.string s] w fun e w' => e = .returned (.int .i64 (if nameB s then 0 else 8)) ∧ Below w.heap.size w w' := by
  have h1 := shNameX_ok s w
  generalize nameB s = b at h1 ⊢
  cases b with
  | true =>
    have h2 := fun W => shWhen_ok false 8 W
    simp only [Bool.false_eq_true, if_false] at h2
    simp only [if_true]
    go_enter Tryz.func48, Tryz.ntmps48
    go_wp2_with (first | (go_at_call 99; refine h1.mono ?_; rintro e w1 ⟨rfl, hB1⟩) | (go_at_call 40; refine (h2 _).mono ?_; rintro e w2 ⟨rfl, rfl⟩))
    go_ret
    exact ⟨rfl, hB1⟩
  | false =>
    have h2 := fun W => shWhen_ok true 8 W
    simp only [if_true] at h2
    simp only [Bool.false_eq_true, if_false]
    go_enter Tryz.func48, Tryz.ntmps48
    go_wp2_with (first | (go_at_call 99; refine h1.mono ?_; rintro e w1 ⟨rfl, hB1⟩) | (go_at_call 40; refine (h2 _).mono ?_; rintro e w2 ⟨rfl, rfl⟩))
    go_ret
    exact ⟨rfl, hB1⟩
end Go.Proofs
end

section
/- Shades, exactly: the first error of a guide; no world. -/
namespace Go.Proofs
open Go.RowKit
set_option maxHeartbeats 4000000
set_option maxRecDepth 1000000
def orL : List Int → Int
  | [] => 0
  | e :: l => if e ≠ 0 then e else orL l
theorem or3_orL (a b c : Int) : or3 a b c = orL [a, b, c] := by
  unfold or3 orL orL orL orL
  split <;> (try rfl)
  split <;> (try rfl)
  split <;> simp_all
theorem orL_eq0 : ∀ {l : List Int}, orL l = 0 ↔ ∀ e ∈ l, e = 0
  | [] => by simp [orL]
  | e :: l => by
    unfold orL
    by_cases h : e = 0
    · subst h
      simp [orL_eq0 (l := l)]
    · simp [h]
theorem orL_mem : ∀ {l : List Int}, orL l = 0 ∨ orL l ∈ l
  | [] => .inl rfl
  | e :: l => by
    unfold orL
    by_cases h : e = 0
    · subst h
      simp only [ne_eq, not_true, if_false]
      exact (orL_mem (l := l)).imp id (fun h => List.mem_cons_of_mem _ h)
    · simp [h]
/-- The first error of the elements of a list. -/
def ScanE {α : Type} (l : List α) (E : Nat → α → Int) (e : Int) : Prop := (e = 0 ∧ ∀ k t, l[k]? = some t → E k t = 0) ∨ (e ≠ 0 ∧ ∃ k t, l[k]? = some t ∧ E k t = e ∧ ∀ j s, j < k → l[j]? = some s → E j s = 0)
theorem ScanE.same {α : Type} {l : List α} {E : Nat → α → Int} {e e' : Int} (h : ScanE l E e) (h' : ScanE l E e') : e = e' := by
  rcases h with ⟨rfl, h⟩ | ⟨he, k, t, hk, rfl, h⟩ <;> rcases h' with ⟨rfl, h'⟩ | ⟨he', k', t', hk', rfl, h'⟩
  · rfl
  · exact absurd (h _ _ hk') he'
  · exact absurd (h' _ _ hk) he
  · rcases Nat.lt_trichotomy k k' with h1 | rfl | h1
    · exact absurd (h' _ _ h1 hk) he
    · obtain rfl := Option.some.inj (hk.symm.trans hk')
      rfl
    · exact absurd (h _ _ h1 hk') he'
/-- So many elements have no error. -/
def PreE {α : Type} (l : List α) (E : Nat → α → Int) (k : Nat) : Prop := ∀ j s, j < k → l[j]? = some s → E j s = 0
theorem PreE.zero {α : Type} (l : List α) (E : Nat → α → Int) : PreE l E 0 := fun j _ h => absurd h (Nat.not_lt_zero j)
theorem PreE.step {α : Type} {l : List α} {E : Nat → α → Int} {k : Nat} {t : α} (h : PreE l E k) (hk : l[k]? = some t) (he : E k t = 0) : PreE l E (k + 1) := fun j s hj hs => by
  rcases Nat.lt_or_eq_of_le (Nat.le_of_lt_succ hj) with h1 | rfl
  · exact h j s h1 hs
  · obtain rfl := Option.some.inj (hk.symm.trans hs)
    exact he
theorem PreE.bad {α : Type} {l : List α} {E : Nat → α → Int} {k : Nat} {t : α} (h : PreE l E k) (hk : l[k]? = some t) (he : E k t ≠ 0) : ScanE l E (E k t) := .inr ⟨he, k, t, hk, rfl, h⟩
theorem PreE.done {α : Type} {l : List α} {E : Nat → α → Int} {k : Nat} (h : PreE l E k) (hk : l.length ≤ k) : ScanE l E 0 := .inl ⟨rfl, fun j s hs => h j s (Nat.lt_of_lt_of_le (List.getElem?_eq_some_iff.1 hs).1 hk) hs⟩
open Classical in
noncomputable def twiceE (s : ByteArray) (l : List ByteArray) : Int := if s ∈ l then 9 else 0
noncomputable def nameE (s : ByteArray) : Int := if nameB s then 0 else 8
theorem twiceE_yes {s : ByteArray} {l : List ByteArray} (h : s ∈ l) : twiceE s l = 9 := by unfold twiceE; rw [if_pos h]
theorem twiceE_no {s : ByteArray} {l : List ByteArray} (h : s ∉ l) : twiceE s l = 0 := by unfold twiceE; rw [if_neg h]
theorem twiceE_iff {s : ByteArray} {l : List ByteArray} : twiceE s l = 0 ↔ s ∉ l := by
  unfold twiceE
  split
  · rename_i h; simp [h]
  · rename_i h; simp [h]
theorem nameE_iff {s : ByteArray} : nameE s = 0 ↔ NameOk s := by
  unfold nameE
  rw [← nameB_ok]
  cases nameB s <;> simp
theorem nameE_or (s : ByteArray) : nameE s = 0 ∨ nameE s = 8 := by unfold nameE; cases nameB s <;> simp
theorem twiceE_or (s : ByteArray) (l : List ByteArray) : twiceE s l = 0 ∨ twiceE s l = 9 := by unfold twiceE; split <;> simp
theorem colE_or (c : Cel) : colE c = 0 ∨ colE c = 3 := by unfold colE; split <;> simp
theorem colE_iff {c : Cel} : colE c = 0 ↔ ColOk c 0 255 := by
  unfold colE
  rw [← sumE_ok]
  split <;> simp_all
noncomputable def tabE (l : List TabT) (k : Nat) (t : TabT) : Int := orL [nameE t.1, twiceE t.1 ((l.take k).map (·.1)), colE t.2]
theorem tabE_cases (l : List TabT) (k : Nat) (t : TabT) : (nameE t.1 = 8 ∧ tabE l k t = 8) ∨ (nameE t.1 = 0 ∧ ((twiceE t.1 ((l.take k).map (·.1)) = 9 ∧ tabE l k t = 9) ∨ (twiceE t.1 ((l.take k).map (·.1)) = 0 ∧ tabE l k t = colE t.2))) := by
  unfold tabE
  rcases nameE_or t.1 with h | h <;> rcases twiceE_or t.1 ((l.take k).map (·.1)) with h2 | h2 <;> rcases colE_or t.2 with h3 | h3 <;> rw [h, h2, h3] <;> simp [orL]
theorem tabE_rng (l : List TabT) (k : Nat) (t : TabT) : 0 ≤ tabE l k t ∧ tabE l k t ≤ 9 := by
  have h := tabE_cases l k t
  have h3 := colE_or t.2
  omega
theorem mem_take {l : List TabT} {k : Nat} {s : ByteArray} : s ∈ (l.take k).map (·.1) ↔ ∃ (j : Nat) (u : TabT), j < k ∧ l[j]? = some u ∧ u.1 = s := by
  constructor
  · intro h
    obtain ⟨t, ht, e⟩ := List.mem_map.1 h
    obtain ⟨j, hj⟩ := List.mem_iff_getElem?.1 ht
    rw [List.getElem?_take] at hj
    split at hj
    · rename_i hjk
      exact ⟨j, t, hjk, hj, e⟩
    · cases hj
  · rintro ⟨j, u, hj, hu, rfl⟩
    refine List.mem_map.2 ⟨u, List.mem_iff_getElem?.2 ⟨j, ?_⟩, rfl⟩
    rw [List.getElem?_take, if_pos hj]
    exact hu
def GuideX (ws : Cel) (l : List TabT) (e : Int) : Prop := (sumE ws 1 100 ≠ 0 ∧ e = 3) ∨ (sumE ws 1 100 = 0 ∧ ((l.length = 0 ∧ e = 12) ∨ (0 < l.length ∧ ((32 < l.length ∧ e = 5) ∨ (l.length ≤ 32 ∧ ScanE l (tabE l) e)))))
theorem GuideX.same {ws : Cel} {l : List TabT} {e e' : Int} (h : GuideX ws l e) (h' : GuideX ws l e') : e = e' := by
  rcases h with ⟨h1, rfl⟩ | ⟨h1, ⟨h2, rfl⟩ | ⟨h2, ⟨h3, rfl⟩ | ⟨h3, h4⟩⟩⟩ <;> rcases h' with ⟨g1, rfl⟩ | ⟨g1, ⟨g2, rfl⟩ | ⟨g2, ⟨g3, rfl⟩ | ⟨g3, g4⟩⟩⟩ <;> first | rfl | exact h4.same g4 | (exfalso; omega)
theorem ScanE.rng {l : List TabT} {e : Int} (h : ScanE l (tabE l) e) : 0 ≤ e ∧ e ≤ 9 := by
  rcases h with ⟨rfl, h⟩ | ⟨he, k, t, hk, rfl, h⟩
  · exact ⟨by omega, by omega⟩
  · exact tabE_rng l k t
theorem GuideX.rng {ws : Cel} {l : List TabT} {e : Int} (h : GuideX ws l e) : 0 ≤ e ∧ e ≤ 12 := by
  rcases h with ⟨h1, rfl⟩ | ⟨h1, ⟨h2, rfl⟩ | ⟨h2, ⟨h3, rfl⟩ | ⟨h3, h4⟩⟩⟩ <;> first | (have := h4.rng; omega) | omega
theorem GuideX.ok {ws : Cel} {l : List TabT} (h : GuideX ws l 0) : GuideOk ws l := by
  rcases h with ⟨h1, e⟩ | ⟨h1, ⟨h2, e⟩ | ⟨h2, ⟨h3, e⟩ | ⟨h3, h4⟩⟩⟩
  · cases e
  · cases e
  · cases e
  · have h5 : ∀ (k : Nat) (t : TabT), l[k]? = some t → tabE l k t = 0 := by
      rcases h4 with ⟨-, h4⟩ | ⟨h4, -⟩
      · exact h4
      · exact absurd rfl h4
    have h6 := fun k t h => orL_eq0.1 (h5 k t h)
    refine ⟨(sumE_ok _ _ _).1 h1, h2, h3, fun i t ht => ⟨nameE_iff.1 (h6 i t ht (nameE t.1) (by simp)), colE_iff.1 (h6 i t ht (colE t.2) (by simp))⟩, fun i j s t hji hs ht he => ?_⟩
    have := twiceE_iff.1 (h6 i t ht (twiceE t.1 ((l.take i).map (·.1))) (List.mem_cons_of_mem _ (List.mem_cons_self ..)))
    exact this (mem_take.2 ⟨j, s, hji, hs, he⟩)
end Go.Proofs
end
