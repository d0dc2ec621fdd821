/- grid.Shell of a set; and the law's 'near'. -/
import Derived.Test.YtgmcdnabgojaeaaGreatDoorPeel
import Derived.Test.YtgmcdnabgojaeaaGreatDoorOutP
import Derived.Test.YtgmcdnabgojaeaaGreatDoorFewR
import Derived.Test.YtgmcdnabgojaeaaGreatDoorCheckV
namespace Go.Proofs
open Go.RowKit
set_option maxHeartbeats 8000000
set_option maxRecDepth 1000000
theorem shellG_ok (l : List Cel) (v : Value) (w : World) (hl : Sl w v l) (hc : chkI l = 0) :
    Calls Tryz.prog 11 #[v] w fun e w' => ∃ v', e = .returned (.tuple #[v', .int .i64 0]) ∧ Sl w' v' (l.filter fun c => !insB l c) ∧ Below w.heap.size w w' := by
  obtain ⟨hlen, hnear0, _⟩ := chkI_zero.1 hc
  have hnear : ∀ c ∈ l, Near c 2000 := fun c hcm => (hnear0 c hcm).mono (by omega)
  have h1 := gridCheckG l v w hl (by unfold maxLen; omega)
  rw [hc] at h1
  have hp := fun W (h : Below w.heap.size w W) => peel_ok l v W (hl.below h) (by omega) hnear
  clear hl hc hnear0 hnear hlen
  go_enter Tryz.func11, Tryz.ntmps11
  go_wp2_with fail
  refine h1.mono ?_
  rintro e w2 ⟨rfl, hX⟩
  have q := hp _ hX
  clear hp
  go_wp2_with fail
  refine q.mono ?_
  rintro e w3 ⟨v1, v2, rfl, ho1, ho2, hB⟩
  have hs := ho1.sl
  have hX3 := hX.trans (hB.mono hX.size)
  clear q ho1 ho2 hX hB
  go_wp2
  go_ret2
  exact ⟨_, rfl, hs, hX3⟩
instance nearDec (c : Cel) (b : Int) : Decidable (Near c b) := by unfold Near; infer_instance
def nearB (l : List Cel) : Bool := l.all fun c => decide (Near c 200)
theorem near200 (x y z : Int) : (withinI x (-200) 200 = 0 ∨ withinI x (-200) 200 = 3) ∧ ((withinI x (-200) 200 + withinI y (-200) 200 + withinI z (-200) 200 = 0) ↔ Near (x, y, z) 200) := by
  unfold withinI Near
  dsimp only
  constructor
  · split <;> simp
  · constructor
    · intro h
      repeat' split at h
      all_goals omega
    · intro h
      rw [if_neg (by omega), if_neg (by omega), if_neg (by omega)]
      rfl
theorem near_ok (l : List Cel) (v : Value) (w : World) (hl : Sl w v l) (hn : l.length ≤ 1000000) :
    Calls Tryz.prog 6 #[v] w fun e w' => e = .returned (.bool (nearB l)) ∧ Below w.heap.size w w' := by
  obtain ⟨A, cap, rfl⟩ := hl.form
  have hT : (∀ c ∈ l, Near c 200) → nearB l = true := fun h => List.all_eq_true.2 fun c hc => decide_eq_true (h c hc)
  have hF : (∃ c ∈ l, ¬ Near c 200) → nearB l = false := fun ⟨c, hc, h⟩ => List.all_eq_false.2 ⟨c, hc, by simpa using h⟩
  generalize nearB l = nb at hT hF ⊢
  go_enter Tryz.func6, Tryz.ntmps6
  go_wp2
  go_loopw [6] (fun i wr => ∃ k : Nat, k ≤ l.length ∧ i = .int .i64 k ∧ Below w.heap.size w wr ∧ ∀ j c, j < k → l[j]? = some c → Near c 200) (fun i _ => l.length - (intOf i).toNat)
  case atStart => exact ⟨0, Nat.zero_le _, rfl, Below.refl _ _, fun j c h => absurd h (Nat.not_lt_zero j)⟩
  case round =>
    obtain ⟨k, hk, rfl, hB, hno⟩ := hrel
    rename World => w1
    rcases Nat.lt_or_eq_of_le hk with hkn | rfl
    · obtain ⟨b, o, x, y, z, rfl, -, hb, hc, r0, r1, r2⟩ := (hl.below hB).cells hkn
      have hk0 : (0 : Int) ≤ k := by omega
      have hk1 : (k : Int) < l.length := by omega
      have wk := wrapS (n := (k : Int) + 1) (by omega)
      obtain ⟨n1, n2⟩ := near200 x y z
      have n3 := (near200 y y z).1
      have n4 := (near200 z y z).1
      have w1 := wrapS (n := withinI x (-200) 200 + withinI y (-200) 200) (by omega)
      have w2 := wrapS (n := withinI x (-200) 200 + withinI y (-200) 200 + withinI z (-200) 200) (by omega)
      by_cases he : Near (x, y, z) 200
      · have hz : (withinI x (-200) 200 + withinI y (-200) 200 + withinI z (-200) 200 != 0) = false := by rw [n2.2 he]; rfl
        have hno' : ∀ j c, j < k + 1 → l[j]? = some c → Near c 200 := fun j c hj e => by
          rcases Nat.lt_or_eq_of_le (Nat.le_of_lt_succ hj) with h | rfl
          · exact hno j c h e
          · rw [hc] at e
            exact (Option.some.inj e) ▸ he
        clear hl he hno n1 n2 n3 n4 hT hF hc
        go_wp2_with fail
        go_quiet ((go_at_call 7; exact Calls.quiet_of_same (checkRange_ok _ _ _ _)))
        rename Nat => q1
        go_wp2
        exact ⟨⟨k + 1, hkn, rfl, ⟨hB.os, hB.tape, hB.output, hB.size, hB.block⟩, hno'⟩, by simp [intOf]; omega⟩
      · have hz : (withinI x (-200) 200 + withinI y (-200) 200 + withinI z (-200) 200 != 0) = true := by rw [bne_iff_ne]; exact fun h => he (n2.1 h)
        have hbb := hF ⟨_, List.mem_of_getElem? hc, he⟩
        clear hl he hno n1 n2 n3 n4 hT hF hc
        go_wp2_with fail
        go_quiet ((go_at_call 7; exact Calls.quiet_of_same (checkRange_ok _ _ _ _)))
        rename Nat => q1
        go_wp2
        go_ret
        exact ⟨by rw [hbb]; rfl, ⟨hB.os, hB.tape, hB.output, hB.size, hB.block⟩⟩
    · have hbb := hT fun c hc => by
        obtain ⟨i, hi⟩ := List.mem_iff_getElem?.1 hc
        exact hno i c (List.getElem?_eq_some_iff.1 hi).1 hi
      clear hl hno hT hF
      go_wp2
      go_ret
      exact ⟨by rw [hbb]; rfl, ⟨hB.os, hB.tape, hB.output, hB.size, hB.block⟩⟩
end Go.Proofs
