/- Jobs: sums, the least and the greatest of some numbers; what a job needs before and after a station. -/
import Derived.Test.YtclmaobblnfplaaOrdS
namespace Go.Proofs
open Go.RowKit Go.MapKept
set_option maxHeartbeats 16000000
set_option maxRecDepth 1000000
theorem sumK_all (l : List Int) : sumK l l.length = sumA l := rfl
theorem sumK_take (l : List Int) (k : Nat) : sumK l k = sumA (l.take k) := by
  unfold sumA sumK
  rw [List.take_length]
theorem shSum_ok (l : List Int) (v : Value) (w : World) (hl : SlI w v l) (hb : ∀ x ∈ l, 0 ≤ x ∧ x ≤ 1000000) (hn : l.length ≤ 1000) :
    Calls Try.prog 31 #[v] w fun e w' => e = .returned (.int .i64 (sumA l)) ∧ w' = w := by
  obtain ⟨A, c, rfl⟩ := hl.form
  have HN := Lib.hid hn
  have HB := Lib.hid hb
  have HL := Lib.hid hl
  clear hn hb hl
  go_enter Try.func31, Try.ntmps31
  go_wp2_with fail
  go_loopw [3, 8] (fun s i wr => ∃ k : Nat, k ≤ l.length ∧ i = .int .i64 k ∧ s = .int .i64 (sumK l k) ∧ wr = w) (fun _ i _ => l.length - (intOf i).toNat)
  case atStart => exact ⟨0, Nat.zero_le _, rfl, rfl, rfl⟩
  case round =>
    obtain ⟨k, hk, rfl, rfl, rfl⟩ := hrel
    rcases Nat.lt_or_eq_of_le hk with hkn | rfl
    · obtain ⟨b, o, x, rfl, -, hb, hx, rx⟩ := HL.out.cells hkn
      have hsk := sumK_succ hx
      have hbd := sumA_bd (B := 1000000) (l := l.take k) fun y hy => HB.out y (List.mem_of_mem_take hy)
      rw [← sumK_take, List.length_take] at hbd
      have hxb := HB.out x (List.mem_of_getElem? hx)
      have hi0 : (0 : Int) ≤ k := by omega
      have hi1 : (k : Int) < l.length := by omega
      have HK := Lib.hid (show k + 1 ≤ l.length from hkn)
      have HM := Lib.hid (show l.length - (k + 1) < l.length - k by omega)
      have HSK := Lib.hid hsk
      have hle : (min k l.length : Nat) ≤ 1000 := by have := HN.out; omega
      have hcast : ((min k l.length : Nat) : Int) ≤ 1000 := by omega
      generalize ((min k l.length : Nat) : Int) = mk at hbd hcast
      obtain ⟨sk, hsk2⟩ : ∃ sk, sk = sumK l k := ⟨_, rfl⟩
      rw [← hsk2] at hbd
      have HS2 := Lib.hid hsk2
      have hwr := wrapC2 (n := sk + x) (by omega)
      obtain ⟨wk1, wk2⟩ := wrapsV (show k < 1048576 by have := HN.out; omega)
      obtain ⟨wa1, wa2⟩ := hwr
      rw [← hsk2]
      clear hx hsk hbd hxb hsk2 hcast hle
      go_wp2_with fail
      go_roundw
      case rel => exact ⟨k + 1, HK.out, by simp, by rw [HSK.out, ← HS2.out], by first | trivial | rfl⟩
      case measure => exact HM.out
    · go_wp2_with fail
      go_ret
      exact ⟨rfl, rfl⟩
def maxK (l : List Int) (k : Nat) : Int := (l.take k).foldl max (at0 l 0)
theorem maxK_succ {l : List Int} {k : Nat} {x : Int} (h : l[k]? = some x) : maxK l (k + 1) = max (maxK l k) x := by
  unfold maxK
  rw [List.take_add_one, h]
  simp
theorem maxK_all (l : List Int) : maxK l l.length = maxL l := by
  unfold maxK
  rw [List.take_length]
  cases l with
  | nil => rfl
  | cons x l =>
    show (x :: l).foldl max x = l.foldl max x
    rw [List.foldl_cons, show max x x = x by omega]
theorem minK_one {l : List Int} (h : 0 < l.length) : minK l 1 = at0 l 0 := by
  rw [minK_succ (List.getElem?_eq_getElem h)]
  have e : at0 l 0 = l[0] := at0_some (List.getElem?_eq_getElem h)
  show min (at0 l 0) l[0] = _
  omega
theorem maxK_one {l : List Int} (h : 0 < l.length) : maxK l 1 = at0 l 0 := by
  rw [maxK_succ (List.getElem?_eq_getElem h)]
  have e : at0 l 0 = l[0] := at0_some (List.getElem?_eq_getElem h)
  show max (at0 l 0) l[0] = _
  omega
theorem maxI_ok (l : List Int) (v : Value) (w : World) (hl : SlI w v l) (hp : 0 < l.length) (hn : l.length ≤ 1000) :
    Calls Try.prog 28 #[v] w fun e w' => e = .returned (.int .i64 (maxL l)) ∧ w' = w := by
  obtain ⟨A, c, rfl⟩ := hl.form
  obtain ⟨b0, o0, x0, rfl, -, hb0, hx0, rx0⟩ := hl.cells hp
  have hx00 := maxK_one hp
  rw [at0_some hx0] at hx00
  have hn1 : decide ((l.length : Int) < 1) = false := decide_eq_false (by omega)
  rw [Nat.add_zero] at rx0
  have hi00 : (0 : Int) < l.length := by omega
  have HN := Lib.hid hn
  have HL := Lib.hid hl
  have HX0 := Lib.hid hx00
  have HP := Lib.hid hp
  clear hn hl hx00 hx0 hp
  go_enter Try.func28, Try.ntmps28
  go_wp2_with fail
  go_loopw [3, 4] (fun s i wr => ∃ k : Nat, k + 1 ≤ l.length ∧ i = .int .i64 ((k : Int) + 1) ∧ s = .int .i64 (maxK l (k + 1)) ∧ wr = w) (fun _ i _ => l.length + 1 - (intOf i).toNat)
  case atStart => exact ⟨0, HP.out, rfl, by rw [HX0.out], rfl⟩
  case round =>
    obtain ⟨k, hk, rfl, rfl, rfl⟩ := hrel
    clear rx0
    rcases Nat.lt_or_eq_of_le hk with hkn | hke
    · obtain ⟨b, o, x, e1, -, hb, hx, rx⟩ := HL.out.cells hkn
      injection e1 with e1
      injection e1 with e1 e2
      subst e1 e2
      have hsk := maxK_succ hx
      have hi0 : (0 : Int) ≤ (k : Int) + 1 := by omega
      have hi1 : (k : Int) + 1 < l.length := by omega
      have HK := Lib.hid (show k + 1 + 1 ≤ l.length from hkn)
      have HM := Lib.hid (show l.length + 1 - (k + 1 + 1) < l.length + 1 - (k + 1) by omega)
      have HSK := Lib.hid hsk
      obtain ⟨sk, hsk2⟩ : ∃ sk, sk = maxK l (k + 1) := ⟨_, rfl⟩
      have HS2 := Lib.hid hsk2
      have wk1 : wrap64 ((k : Int) + 1 + 1) = (k : Int) + 1 + 1 := wrap64_small (by have := HN.out; omega)
      have wk2 : IntKind.i64.wrap ((k : Int) + 1 + 1) = (k : Int) + 1 + 1 := wrap_small (by have := HN.out; omega)
      rw [← hsk2]
      clear hx hsk hsk2
      rcases Int.lt_or_le sk x with hlt | hlt
      · have HV := Lib.hid (show max sk x = x by omega)
        go_wp2_with fail
        go_roundw
        case rel => exact ⟨k + 1, HK.out, by simp, by rw [HSK.out, ← HS2.out, HV.out], by first | trivial | rfl⟩
        case measure => first | exact HM.out | (have := HM.out; simp only [intOf]; omega)
      · have HV := Lib.hid (show max sk x = sk by omega)
        go_wp2_with fail
        go_roundw
        case rel => exact ⟨k + 1, HK.out, by simp, by rw [HSK.out, ← HS2.out, HV.out], by first | trivial | rfl⟩
        case measure => first | exact HM.out | (have := HM.out; simp only [intOf]; omega)
    · have HE : RowKit.Hid (maxK l (k + 1) = maxL l) := Lib.hid (by rw [hke, maxK_all])
      have hend : decide ((k : Int) + 1 < (l.length : Int)) = false := decide_eq_false (by omega)
      obtain ⟨r, hr⟩ : ∃ r, r = maxK l (k + 1) := ⟨_, rfl⟩
      rw [← hr]
      have HR := Lib.hid (hr.trans HE.out)
      clear hr
      have hke2 : (l.length : Int) = (k : Int) + 1 := by omega
      clear hke HE hk
      go_wp2_with fail
      go_ret
      exact ⟨by rw [← HR.out]; rfl, rfl⟩
theorem minI_ok (l : List Int) (v : Value) (w : World) (hl : SlI w v l) (hp : 0 < l.length) (hn : l.length ≤ 1000) :
    Calls Try.prog 33 #[v] w fun e w' => e = .returned (.int .i64 (minL l)) ∧ w' = w := by
  obtain ⟨A, c, rfl⟩ := hl.form
  obtain ⟨b0, o0, x0, rfl, -, hb0, hx0, rx0⟩ := hl.cells hp
  have hx00 := minK_one hp
  rw [at0_some hx0] at hx00
  have hn1 : decide ((l.length : Int) < 1) = false := decide_eq_false (by omega)
  rw [Nat.add_zero] at rx0
  have hi00 : (0 : Int) < l.length := by omega
  have HN := Lib.hid hn
  have HL := Lib.hid hl
  have HX0 := Lib.hid hx00
  have HP := Lib.hid hp
  clear hn hl hx00 hx0 hp
  go_enter Try.func33, Try.ntmps33
  go_wp2_with fail
  go_loopw [3, 4] (fun s i wr => ∃ k : Nat, k + 1 ≤ l.length ∧ i = .int .i64 ((k : Int) + 1) ∧ s = .int .i64 (minK l (k + 1)) ∧ wr = w) (fun _ i _ => l.length + 1 - (intOf i).toNat)
  case atStart => exact ⟨0, HP.out, rfl, by rw [HX0.out], rfl⟩
  case round =>
    obtain ⟨k, hk, rfl, rfl, rfl⟩ := hrel
    clear rx0
    rcases Nat.lt_or_eq_of_le hk with hkn | hke
    · obtain ⟨b, o, x, e1, -, hb, hx, rx⟩ := HL.out.cells hkn
      injection e1 with e1
      injection e1 with e1 e2
      subst e1 e2
      have hsk := minK_succ hx
      have hi0 : (0 : Int) ≤ (k : Int) + 1 := by omega
      have hi1 : (k : Int) + 1 < l.length := by omega
      have HK := Lib.hid (show k + 1 + 1 ≤ l.length from hkn)
      have HM := Lib.hid (show l.length + 1 - (k + 1 + 1) < l.length + 1 - (k + 1) by omega)
      have HSK := Lib.hid hsk
      obtain ⟨sk, hsk2⟩ : ∃ sk, sk = minK l (k + 1) := ⟨_, rfl⟩
      have HS2 := Lib.hid hsk2
      have wk1 : wrap64 ((k : Int) + 1 + 1) = (k : Int) + 1 + 1 := wrap64_small (by have := HN.out; omega)
      have wk2 : IntKind.i64.wrap ((k : Int) + 1 + 1) = (k : Int) + 1 + 1 := wrap_small (by have := HN.out; omega)
      rw [← hsk2]
      clear hx hsk hsk2
      rcases Int.lt_or_le x sk with hlt | hlt
      · have HV := Lib.hid (show min sk x = x by omega)
        go_wp2_with fail
        go_roundw
        case rel => exact ⟨k + 1, HK.out, by simp, by rw [HSK.out, ← HS2.out, HV.out], by first | trivial | rfl⟩
        case measure => first | exact HM.out | (have := HM.out; simp only [intOf]; omega)
      · have HV := Lib.hid (show min sk x = sk by omega)
        go_wp2_with fail
        go_roundw
        case rel => exact ⟨k + 1, HK.out, by simp, by rw [HSK.out, ← HS2.out, HV.out], by first | trivial | rfl⟩
        case measure => first | exact HM.out | (have := HM.out; simp only [intOf]; omega)
    · have HE : RowKit.Hid (minK l (k + 1) = minL l) := Lib.hid (by rw [hke, minK_all])
      have hend : decide ((k : Int) + 1 < (l.length : Int)) = false := decide_eq_false (by omega)
      obtain ⟨r, hr⟩ : ∃ r, r = minK l (k + 1) := ⟨_, rfl⟩
      rw [← hr]
      have HR := Lib.hid (hr.trans HE.out)
      clear hr
      have hke2 : (l.length : Int) = (k : Int) + 1 := by omega
      clear hke HE hk
      go_wp2_with fail
      go_ret
      exact ⟨by rw [← HR.out]; rfl, rfl⟩
end Go.Proofs
