import Derived.Test.YtfdhppdkgfioaaaGreatDoorGrpR
import Derived.Test.YtfdhppdkgfioaaaGreatDoorShrinkR
import Derived.Test.YtfdhppdkgfioaaaGreatDoorSlOps
/- The reference's Parts and Shell; SameLists; lists of the law. -/
namespace Go.Proofs
open Go.RowKit
set_option maxHeartbeats 8000000
set_option maxRecDepth 1000000
theorem refParts_ok (l : List Cel) (v : Value) (w : World) (hl : Sl w v l) (hc : chkI l = 0) :
    Calls Tryz.prog 13 #[v] w fun e w' => ∃ v', e = .returned v' ∧ OwnLs w' w.heap.size v' (partK NearR l l.length) ∧ Below w.heap.size w w' := by
  obtain ⟨h1, h2, h3⟩ := chkI_zero.1 hc
  have q := refGroups_ok l v w hl (by omega) (fun c h => (h2 c h).mono (by omega)) h3
  clear hl hc h1 h2 h3
  go_enter Tryz.func13, Tryz.ntmps13
  go_wp2_with (go_at_call 57; refine q.mono ?_; rintro e w1 ⟨v1, rfl, ho, hB⟩)
  go_ret
  exact ⟨_, rfl, ho, hB⟩
theorem shr_one (l : List Cel) : shrN 1 l = l.filter (insB l) := rfl
theorem refShell_ok (l : List Cel) (v : Value) (w : World) (hl : Sl w v l) (hc : chkI l = 0) :
    Calls Tryz.prog 14 #[v] w fun e w' => ∃ v', e = .returned v' ∧ Own w' w.heap.size v' (l.filter fun c => !insB l c) ∧ Below w.heap.size w w' := by
  obtain ⟨h1, h2, h3⟩ := chkI_zero.1 hc
  have q := refShrink_ok l v 1 w hl (by omega) (fun c h => (h2 c h).mono (by omega)) (by omega)
  rw [shr_one] at q
  have hk := fun (u : Value) W (h : Below w.heap.size w W) (hu : Sl W u (l.filter (insB l))) => refLess_ok l (l.filter (insB l)) v u W (hl.below h) hu (by omega) (Nat.le_trans (List.length_filter_le _ _) (by omega))
  have e : (l.filter fun c => !decide (c ∈ l.filter (insB l))) = l.filter fun c => !insB l c := List.filter_congr fun c hcl => by
    rw [Bool.not_inj_iff]
    cases hb : insB l c with
    | true => exact decide_eq_true (List.mem_filter.2 ⟨hcl, hb⟩)
    | false => exact decide_eq_false fun h => by rw [(List.mem_filter.1 h).2] at hb; cases hb
  rw [e] at hk
  clear hl hc h1 h2 h3 e
  go_enter Tryz.func14, Tryz.ntmps14
  go_wp2_with (first
    | (go_at_call 59; refine q.mono ?_; rintro e w1 ⟨v1, rfl, ho, hB⟩; have q2 := hk _ _ hB ho.sl)
    | (go_at_call 58; refine q2.mono ?_; rintro e w2 ⟨v2, rfl, ho2, hB2⟩))
  go_ret
  exact ⟨_, rfl, ho2.mono hB.size, hB.trans (hB2.mono hB.size)⟩
theorem sameLists_ok (P : List (List Cel)) (v u : Value) (w : World) (hv : LsC w v P) (hu : LsC w u P) (hn : P.length ≤ 4096) (hp : ∀ p ∈ P, p.length ≤ 4096) :
    Calls Tryz.prog 48 #[v, u] w fun e w' => e = .returned (.bool true) ∧ Below w.heap.size w w' := by
  obtain ⟨A, ca, rfl⟩ := hv.form
  obtain ⟨B, cb, rfl⟩ := hu.form
  have hne : ((P.length : Int) != (P.length : Int)) = false := by simp
  go_enter Tryz.func48, Tryz.ntmps48
  go_wp2
  go_loopw [5] (fun i wr => ∃ k : Nat, k ≤ P.length ∧ i = .int .i64 k ∧ Below w.heap.size w wr) (fun i _ => P.length - (intOf i).toNat)
  case atStart => exact ⟨0, Nat.zero_le _, rfl, Below.refl _ _⟩
  case round =>
    obtain ⟨k, hk, rfl, hX⟩ := hrel
    rename World => w1
    rcases Nat.lt_or_eq_of_le hk with hkn | rfl
    · obtain ⟨p, hpk⟩ : ∃ p, P[k]? = some p := ⟨_, List.getElem?_eq_getElem hkn⟩
      obtain ⟨b1, o1, A1, c1, rfl, -, hb1, r1, s1⟩ := (hv.below hX).cells hpk
      obtain ⟨b2, o2, A2, c2, rfl, -, hb2, r2, s2⟩ := (hu.below hX).cells hpk
      have hk0 : (0 : Int) ≤ k := by omega
      have hk1 : (k : Int) < P.length := by omega
      have wk := wrapS (n := (k : Int) + 1) (by omega)
      have hpl := hp p (List.mem_of_getElem? hpk)
      have q := fun W (h : Below w1.heap.size w1 W) => sameSl p p _ _ W (s1.below h) (s2.below h) hpl
      rw [decide_eq_true rfl] at q
      have HK := Lib.hid (show k + 1 ≤ P.length from hkn)
      have HM := Lib.hid (show P.length - (k + 1) < P.length - k by omega)
      clear s1 s2 hpk hpl hv hu
      go_wp2_with fail
      have qn := fun n => q (w1.drewN n) ⟨rfl, rfl, rfl, Nat.le_refl _, fun _ _ => rfl⟩
      go_quiet ((go_at_call 47; exact Calls.quiet_of (qn _)))
      rename Nat => q1
      clear q qn
      go_wp2_with fail
      go_roundw
      case rel => exact ⟨k + 1, HK.out, by simp, hX.trans ⟨rfl, rfl, rfl, Nat.le_refl _, fun _ _ => rfl⟩⟩
      case measure => exact HM.out
    · clear hv hu
      go_wp2
      go_ret
      exact ⟨rfl, hX⟩
theorem lists_bad (A B : Option Addr) (ca cb m : Nat) (e : Int) (he : e ≠ 0) (w : World) :
    Calls Tryz.prog 11 #[.slice A 0 ca, .int .i64 e, .int .i64 e, .slice B m cb] w fun e w' => e = .returned (.bool true) ∧ w' = w := by
  have hne : (e != 0) = true := by simpa using he
  clear he
  go_enter Tryz.func11, Tryz.ntmps11
  go_wp2
  go_ret
  exact ⟨rfl, rfl⟩
theorem lists_same (P : List (List Cel)) (v u : Value) (w : World) (hv : LsC w v P) (hu : LsC w u P) (hn : P.length ≤ 4096) (hp : ∀ p ∈ P, p.length ≤ 4096) :
    Calls Tryz.prog 11 #[v, .int .i64 0, .int .i64 0, u] w fun e w' => e = .returned (.bool true) ∧ Below w.heap.size w w' := by
  have hs := sameLists_ok P v u w hv hu hn hp
  obtain ⟨A, ca, rfl⟩ := hv.form
  obtain ⟨B, cb, rfl⟩ := hu.form
  clear hv hu hn hp
  go_enter Tryz.func11, Tryz.ntmps11
  go_wp2_with (go_at_call 48; refine hs.mono ?_; rintro e w1 ⟨rfl, hB⟩)
  go_ret
  exact ⟨rfl, hB⟩
end Go.Proofs
