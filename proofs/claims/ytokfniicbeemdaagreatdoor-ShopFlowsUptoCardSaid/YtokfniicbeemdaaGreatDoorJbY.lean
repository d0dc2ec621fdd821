/- Jobs: the end of a schedule, of the reference; hits, two ways. -/
import Derived.Test.YtokfniicbeemdaaGreatDoorJbW
namespace Go.Proofs
open Go.RowKit Go.MapKept
set_option maxHeartbeats 16000000
set_option maxRecDepth 1000000
theorem hit_iff (x y a b : Int) (ha : 0 ≤ a) (hb : 0 ≤ b) : (0 < a ∧ 0 < b ∧ x < y + b ∧ y < x + a) ↔ max x y < min (x + a) (y + b) := by omega
theorem refEnd_ok (js : List JobT) (S : List (List Int)) (m : Nat) (v vs : Value) (w : World) (hl : SlJ w v js) (hS : SlLL w vs S) (ok : JobsOk m js) (hSn : S.length = js.length) (hx : ∀ x ∈ S, x.length = m ∧ ∀ y ∈ x, 0 ≤ y ∧ y ≤ 999999999) :
    Calls Tryz.prog 85 #[v, vs] w fun e w' => e = .returned (.int .i64 (endL (useK js S (m - 1)) js.length)) ∧ Below w.heap.size w w' := by
  obtain ⟨Av, cv, rfl⟩ := hS.form
  rw [hSn] at hS ⊢
  obtain ⟨bJ, oJ, cap, rfl, hbJ, hat⟩ := hl.addr ok.pos
  have hfew := ok.few
  have hm8 : 0 < m ∧ m ≤ 8 := by
    obtain ⟨j0, hj0⟩ : ∃ j, js[0]? = some j := ⟨_, List.getElem?_eq_getElem ok.pos⟩
    have hjo0 := ok.ok _ (List.mem_of_getElem? hj0)
    have h1 := hjo0.d
    have h2 := hjo0.few
    omega
  obtain ⟨U, hU⟩ : ∃ U, U = useK js S (m - 1) := ⟨_, rfl⟩
  have hUa : ∀ (k : Nat) (j : JobT) (x : List Int), js[k]? = some j → S[k]? = some x → U[k]? = some (at0 x (m - 1), at0 x (m - 1) + at0 j.2.1 (m - 1)) := fun k j x h1 h2 => by rw [hU]; exact useK_at h1 h2
  rw [← hU]
  have hB0 := Below.refl w.heap.size w
  have hcm : ((m - 1 : Nat) : Int) = (m : Int) - 1 := by omega
  obtain ⟨s, hs⟩ : ∃ s, s = m - 1 := ⟨_, rfl⟩
  have hms : m = s + 1 := by omega
  rw [← hs] at hUa
  have HUA := Lib.hid hUa
  have HAT := Lib.hid hat
  have HOK := Lib.hid ok
  have HXS := Lib.hid hx
  have HSN := Lib.hid hSn
  have HM8 := Lib.hid hm8
  have HMS := Lib.hid hms
  clear hl hat hU hUa ok hx hSn hs hcm hms hm8
  go_enter Tryz.func85, Tryz.ntmps85
  go_wp2_with fail
  go_loopw [5, 6] (fun c i wr => ∃ k : Nat, k ≤ js.length ∧ i = .int .i64 k ∧ c = .int .i64 (endL U k) ∧ Below w.heap.size w wr) (fun _ i _ => js.length - (intOf i).toNat)
  case atStart => exact ⟨0, Nat.zero_le _, rfl, rfl, hB0⟩
  case round =>
    clear hB0
    obtain ⟨k, hk, rfl, rfl, hX⟩ := hrel
    rename World => w3
    rcases Nat.lt_or_eq_of_le hk with hkn | rfl
    · obtain ⟨⟨nm, tl, dl⟩, hc⟩ : ∃ j, js[k]? = some j := ⟨_, List.getElem?_eq_getElem hkn⟩
      obtain ⟨vt, vd, j0, j1, j2, ht, hd⟩ := HAT.out k _ hc
      have hjo := HOK.out.ok _ (List.mem_of_getElem? hc)
      have hjt := hjo.t
      have htb := hjo.tb
      dsimp only at j0 j1 j2 ht hd hjt htb
      obtain ⟨At, ct, rfl⟩ := ht.form
      have r1 := (hX.cell (p := ⟨bJ, oJ + k * 3 + 1, none⟩) hbJ).trans j1
      obtain ⟨bS, oS, x, Ax, cx, rfl, hbS, hxk, rS, hxs⟩ := (hS.below hX).cells (k := k) (by rw [HSN.out]; exact hkn)
      have hxo := HXS.out x (List.mem_of_getElem? hxk)
      obtain ⟨bx, ox, y, rfl, -, hbx, hy, ry⟩ := hxs.cells (k := s) (by have := HMS.out; omega)
      obtain ⟨bt, ot, z, rfl, -, hbt, hz, rz⟩ := (ht.below hX).cells (k := s) (by have := HMS.out; omega)
      have hyb := hxo.2 y (List.mem_of_getElem? hy)
      have hzb := htb z (List.mem_of_getElem? hz)
      have hu := HUA.out k _ _ hc hxk
      dsimp only at hu
      rw [at0_some hy, at0_some hz] at hu
      have hmx := endL_succ hu
      dsimp only at hmx
      have hi0 : (0 : Int) ≤ k := by omega
      have hi1 : (k : Int) < js.length := by omega
      have hs0 : (0 : Int) ≤ s := by omega
      have hs1 : (s : Int) < x.length := by have := HMS.out; omega
      have hs2 : (s : Int) < tl.length := by have := HMS.out; omega
      have hs8 : s ≤ 8 := by have h1 := HMS.out; have h2 := HM8.out; omega
      have htl : tl.length = s + 1 := by have := HMS.out; omega
      have htc : (tl.length : Int) = (s : Int) + 1 := by omega
      have ws0 : wrap64 ((tl.length : Int) - 1) = (s : Int) ∧ IntKind.i64.wrap ((tl.length : Int) - 1) = (s : Int) := ⟨(wrap64_small (by omega)).trans (by omega), (wrap_small (by omega)).trans (by omega)⟩
      obtain ⟨ws1, ws2⟩ := ws0
      have HK := Lib.hid (show k + 1 ≤ js.length from hkn)
      have HM := Lib.hid (show js.length - (k + 1) < js.length - k by omega)
      have HW := Lib.hid (wrapC2 (n := y + z) (by omega))
      obtain ⟨wk1, wk2⟩ := wrapsV (show k < 1048576 by omega)
      obtain ⟨wa1, wa2⟩ := HW.out
      have HMX := Lib.hid hmx
      have HX := Lib.hid (below_drewN hX)
      generalize endL U k = C at HMX ⊢
      clear hc hxk hxs hxo hy hz hyb hzb hu hmx hjo hjt htb ht hd j0 j1 j2 hX htl htc hs8
      go_wp2_with fail
      all_goals (go_quiet (fail))
      all_goals (go_wp2_with fail)
      all_goals (
        go_roundw
        case rel => exact ⟨k + 1, HK.out, by simp, congrArg (fun z => Value.int .i64 z) (by rw [HMX.out]; omega), HX.out _⟩
        case measure => exact HM.out)
    · obtain ⟨C, hCe⟩ : ∃ C, C = endL U js.length := ⟨_, rfl⟩
      rw [← hCe]
      have HCE := Lib.hid hCe
      clear hCe
      go_wp2_with fail
      go_ret
      refine ⟨?_, hX⟩
      rw [← HCE.out]
      rfl
end Go.Proofs
