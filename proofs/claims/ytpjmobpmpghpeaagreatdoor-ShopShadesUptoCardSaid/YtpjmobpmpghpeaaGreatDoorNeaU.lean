/- ShopNears: a guide as one of the reference. -/
import Derived.Test.YtpjmobpmpghpeaaGreatDoorShdU
namespace Go.Proofs
open Go.RowKit Go.MapKept
set_option maxHeartbeats 16000000
set_option maxRecDepth 1000000
theorem lawGuide_ok (ws : Cel) (v : Value) (l : List TabT) (w : World) (hl : SlT w v l) (hn : l.length ≤ 1048576) :
    Calls Tryz.prog 19 #[gdV ws v] w fun e w' => (∃ u, e = .returned (gdV ws u) ∧ OwnT 118 w' w.heap.size u l) ∧ Below w.heap.size w w' := by
  obtain ⟨j0, hj, hy0, hy1, hy2⟩ := info_parts (P := Tryz.prog) (e := 118) (z := .agg #[.string ⟨#[]⟩, .int .i64 0, .int .i64 0, .int .i64 0]) (size := 4) (bytes := 40) (by kernel_rfl)
  obtain ⟨A, cap, rfl⟩ := hl.form
  obtain ⟨x, y, z⟩ := ws
  unfold gdV
  dsimp only
  obtain ⟨W0, hW⟩ : ∃ W0, W0 = ((w.alloc (.cells #[.int .i64 x, .int .i64 y, .int .i64 z, .slice A l.length cap] 50)).alloc (.cells #[.int .i64 0, .int .i64 0, .int .i64 0, .slice none 0 0] 53)).alloc (.cells #[.int .i64 x, .int .i64 y, .int .i64 z, .slice none 0 0] 53) := ⟨_, rfl⟩
  have hB0 : Below w.heap.size w W0 := by subst hW; exact (((Below.refl _ _).alloc (Nat.le_refl _) _).alloc (by simp) _).alloc (by simp; omega) _
  have hz0 : W0.heap.size = w.heap.size + 1 + 1 + 1 := by subst hW; simp
  have rg : W0.heap[w.heap.size]? = some (.cells #[.int .i64 x, .int .i64 y, .int .i64 z, .slice A l.length cap] 50 (0, 0)) := by subst hW; exact (Below.heap_alloc _ _ _ (by simp; omega)).trans ((Below.heap_alloc _ _ _ (by simp)).trans (heap_alloc_new w _))
  have rr : RowK W0 53 (w.heap.size + 1) [.int .i64 0, .int .i64 0, .int .i64 0, .slice none 0 0] := by
    have := heap_alloc_new (w.alloc (.cells #[.int .i64 x, .int .i64 y, .int .i64 z, .slice A l.length cap] 50)) (.cells #[.int .i64 0, .int .i64 0, .int .i64 0, .slice none 0 0] 53)
    unfold RowK
    rw [hW, Below.heap_alloc _ _ _ (by simp)]
    simpa using this
  have ro : RowK W0 53 (w.heap.size + 1 + 1) [.int .i64 x, .int .i64 y, .int .i64 z, .slice none 0 0] := by
    have := heap_alloc_new ((w.alloc (.cells #[.int .i64 x, .int .i64 y, .int .i64 z, .slice A l.length cap] 50)).alloc (.cells #[.int .i64 0, .int .i64 0, .int .i64 0, .slice none 0 0] 53)) (.cells #[.int .i64 x, .int .i64 y, .int .i64 z, .slice none 0 0] 53)
    rw [← hW] at this
    unfold RowK
    simpa using this
  obtain ⟨g0, g1, g2, g3⟩ := four_cells rg
  go_enter Tryz.func19, Tryz.ntmps19
  go_wp2
  rw [← hW]
  clear hW g0 g1 g2 g3 rg
  go_loopw [12] (fun i wr => ∃ (k : Nat) (u : Value), k ≤ l.length ∧ i = .int .i64 k ∧ RowK wr 53 (w.heap.size + 1 + 1) [.int .i64 x, .int .i64 y, .int .i64 z, u] ∧ RowK wr 53 (w.heap.size + 1) [.int .i64 0, .int .i64 0, .int .i64 0, .slice none 0 0] ∧ OwnT 118 wr w.heap.size u (l.take k) ∧ Below w.heap.size w wr ∧ w.heap.size + 1 + 1 < wr.heap.size) (fun i _ => l.length - (intOf i).toNat)
  case atStart => exact ⟨0, _, Nat.zero_le _, rfl, ro, rr, OwnT.nil _ _ _, hB0, by omega⟩
  case round =>
    clear ro rr hB0 hz0 W0
    obtain ⟨k, u, hk, rfl, ro, rr, hown, hBw, hz⟩ := hrel
    rcases Nat.lt_or_eq_of_le hk with hkn | rfl
    · obtain ⟨b, o, s, x1, y1, z1, rfl, -, hb, hc, r0, r1, r2, r3⟩ := (hl.below hBw).cells hkn
      have hi0 : (0 : Int) ≤ k := by omega
      have hi1 : (k : Int) < l.length := by omega
      have hwk := wrap64_small (n := (k : Int) + 1) (by omega)
      have hsucc : l.take (k + 1) = l.take k ++ [(s, x1, y1, z1)] := by rw [List.take_add_one, hc]; rfl
      obtain ⟨Wt, hW⟩ : ∃ Wt, Wt = (wr.alloc (.cells #[.string s, .int .i64 x1, .int .i64 y1, .int .i64 z1] 76)).alloc (.cells #[.string s, .int .i64 x1, .int .i64 y1, .int .i64 z1] 118) := ⟨_, rfl⟩
      have hQt : Below wr.heap.size wr Wt := by subst hW; exact ((Below.refl _ _).alloc (Nat.le_refl _) _).alloc (by simp) _
      have hrowN : Wt.heap[wr.heap.size + 1]? = some (.cells #[.string s, .int .i64 x1, .int .i64 y1, .int .i64 z1] 118 (0, 0)) := by
        have := heap_alloc_new (wr.alloc (.cells #[.string s, .int .i64 x1, .int .i64 y1, .int .i64 z1] 76)) (.cells #[.string s, .int .i64 x1, .int .i64 y1, .int .i64 z1] 118)
        rw [← hW] at this
        simpa using this
      have hownT := hown.keep hQt
      have hoT := ro.below hQt
      have hrT := rr.below hQt
      have hBt := hBw.trans (hQt.mono hBw.size)
      have hne := hownT.ne_ hoT (by decide)
      have hne2 := hownT.ne_ hrT (by decide)
      have hge : ∀ g, u.ownBlock = some g → w.heap.size ≤ g := fun g e => (hownT.lt g e).1
      have hown' : Wt.ownsRow w.heap.size 118 4 u k (flatT (l.take k)) := by have := hownT; unfold OwnT at this; rwa [take_len hk] at this
      have hzt : w.heap.size + 1 + 1 < Wt.heap.size := Nat.lt_of_lt_of_le hz hQt.size
      have c3 : wr.cell? ⟨w.heap.size + 1 + 1, 3, none⟩ = some u := ro.cell (by rfl)
      have hq1 : w.heap.size + 1 + 1 ≠ wr.heap.size := by omega
      clear hown hc ro rr hownT
      go_wp2_with (at_builtin; (rw [← hW]; refine wpList_append_own_at _ rfl _ _ 51 rfl w.heap.size 118 j0 _ 4 40 Tryz.underlying51 hj hy0 hy1 hy2 rfl (by decide) u k (flatT (l.take k)) rfl hown' ⟨wr.heap.size + 1, 0, none⟩ 1 1 (encT (s, x1, y1, z1)) rfl rfl ?hnw ?h1w ?c1w ?c2w ?c3w ?_))
      case hnw =>
        intro j q hj2
        have hcell := cell_of_row Wt (wr.heap.size + 1) j _ _ _ hrowN
        have hadd : (⟨wr.heap.size + 1, 0, none⟩ : Addr).add j = ⟨wr.heap.size + 1, j, none⟩ := by
          unfold Addr.add
          split
          · simp_all
          · simp
        rw [hadd, hcell, ← hj2]
        simp [encT]
      case h1w =>
        intro q hq
        simp only [encT, List.mem_cons, List.not_mem_nil, or_false] at hq
        rcases hq with rfl | rfl | rfl | rfl <;> rfl
      case c1w => unfold maxLen; omega
      case c2w => omega
      case c3w => exact hBt.size
      intro v2 w2 hown2 hg2 hnil2 hblk2
      rw [← hW] at hg2
      have ho2 : RowK w2 53 (w.heap.size + 1 + 1) [.int .i64 x, .int .i64 y, .int .i64 z, u] := hoT.keep (hg2.block _ hzt (fun e => hne e.symm))
      have hr2 : RowK w2 53 (w.heap.size + 1) [.int .i64 0, .int .i64 0, .int .i64 0, .slice none 0 0] := hrT.keep (hg2.block _ (by omega) (fun e => hne2 e.symm))
      have hB2 := hBt.grown hg2 hBt.size hge
      have hownF : OwnT 118 w2 w.heap.size v2 (l.take (k + 1)) := by
        unfold OwnT
        rw [take_len (by omega), hsucc, flatT_append]
        have e1 : flatT [(s, x1, y1, z1)] = encT (s, x1, y1, z1) := by simp [flatT]
        rw [e1]
        exact hown2
      obtain ⟨A2, cap2, hv2⟩ := hownF.sl.form
      rw [take_len (show k + 1 ≤ l.length by omega)] at hv2
      subst hv2
      have y3 : w2.cell? ⟨w.heap.size + 1 + 1, 3, none⟩ = some u := ho2.cell (by rfl)
      have fz := ho2.fz 3
      have hz2 := hg2.size
      have hneF := hownF.ne_ ho2 (by decide)
      have ho3 := ho2.set 3 (.slice A2 (k + 1) cap2)
      have hr3 := hr2.keep (Below.heap_setCell w2 ⟨w.heap.size + 1 + 1, 3, none⟩ (.slice A2 (k + 1) cap2) (w.heap.size + 1) (by show w.heap.size + 1 ≠ w.heap.size + 1 + 1; omega))
      have hown3 : OwnT 118 (w2.setCell ⟨w.heap.size + 1 + 1, 3, none⟩ (.slice A2 (k + 1) cap2)) w.heap.size (.slice A2 (k + 1) cap2) (l.take (k + 1)) := hownF.keepB fun g e => Below.heap_setCell w2 ⟨w.heap.size + 1 + 1, 3, none⟩ (.slice A2 (k + 1) cap2) g (fun h => hneF (by rw [e, h]))
      have hB3 := hB2.setCell (p := ⟨w.heap.size + 1 + 1, 3, none⟩) (by show w.heap.size ≤ w.heap.size + 1 + 1; omega) (.slice A2 (k + 1) cap2)
      clear hown2 hg2 hnil2 hblk2 hownF hneF hown' hne hne2 hoT hrT hB2
      go_wp2
      go_roundw
      case rel => exact ⟨k + 1, _, hkn, by simp, ho3, hr3, hown3, hB3, by simp [World.setCell]; omega⟩
      case measure => simp [intOf]; omega
    · rw [List.take_of_length_le (Nat.le_refl _)] at hown
      obtain ⟨A2, cap2, hv2⟩ := hown.sl.form
      subst hv2
      have e0 : wr.cell? ⟨w.heap.size + 1 + 1, 0, none⟩ = some (.int .i64 x) := ro.cell (by rfl)
      have e1 : wr.cell? ⟨w.heap.size + 1 + 1, 1, none⟩ = some (.int .i64 y) := ro.cell (by rfl)
      have e2 : wr.cell? ⟨w.heap.size + 1 + 1, 2, none⟩ = some (.int .i64 z) := ro.cell (by rfl)
      have e3 : wr.cell? ⟨w.heap.size + 1 + 1, 3, none⟩ = some (.slice A2 l.length cap2) := ro.cell (by rfl)
      have z0 : wr.cell? ⟨w.heap.size + 1, 0, none⟩ = some (.int .i64 0) := rr.cell (by rfl)
      have z1 : wr.cell? ⟨w.heap.size + 1, 1, none⟩ = some (.int .i64 0) := rr.cell (by rfl)
      have z2 : wr.cell? ⟨w.heap.size + 1, 2, none⟩ = some (.int .i64 0) := rr.cell (by rfl)
      have z3 : wr.cell? ⟨w.heap.size + 1, 3, none⟩ = some (.slice none 0 0) := rr.cell (by rfl)
      have f0 := rr.fz 0
      have f1 := rr.fz 1
      have f2 := rr.fz 2
      have f3 := rr.fz 3
      have hne := hown.ne_ rr (by decide)
      have hF : ((((wr.setCell ⟨w.heap.size + 1, 0, none⟩ (.int .i64 x)).setCell ⟨w.heap.size + 1, 1, none⟩ (.int .i64 y)).setCell ⟨w.heap.size + 1, 2, none⟩ (.int .i64 z)).setCell ⟨w.heap.size + 1, 3, none⟩ (.slice A2 l.length cap2)).heap[w.heap.size + 1]? = some (.cells #[.int .i64 x, .int .i64 y, .int .i64 z, .slice A2 l.length cap2] 53 (0, 0)) := (((rr.set 0 (.int .i64 x)).set 1 (.int .i64 y)).set 2 (.int .i64 z)).set 3 (.slice A2 l.length cap2)
      have hs : ∀ g, g ≠ w.heap.size + 1 → ((((wr.setCell ⟨w.heap.size + 1, 0, none⟩ (.int .i64 x)).setCell ⟨w.heap.size + 1, 1, none⟩ (.int .i64 y)).setCell ⟨w.heap.size + 1, 2, none⟩ (.int .i64 z)).setCell ⟨w.heap.size + 1, 3, none⟩ (.slice A2 l.length cap2)).heap[g]? = wr.heap[g]? := fun g hg => (Below.heap_setCell _ ⟨w.heap.size + 1, 3, none⟩ _ g hg).trans ((Below.heap_setCell _ ⟨w.heap.size + 1, 2, none⟩ _ g hg).trans ((Below.heap_setCell _ ⟨w.heap.size + 1, 1, none⟩ _ g hg).trans (Below.heap_setCell _ ⟨w.heap.size + 1, 0, none⟩ _ g hg)))
      have hownF : OwnT 118 ((((wr.setCell ⟨w.heap.size + 1, 0, none⟩ (.int .i64 x)).setCell ⟨w.heap.size + 1, 1, none⟩ (.int .i64 y)).setCell ⟨w.heap.size + 1, 2, none⟩ (.int .i64 z)).setCell ⟨w.heap.size + 1, 3, none⟩ (.slice A2 l.length cap2)) w.heap.size (.slice A2 l.length cap2) l := hown.keepB fun g e => hs g (fun h => hne (by rw [e, h]))
      have hBf := (((hBw.setCell (p := ⟨w.heap.size + 1, 0, none⟩) (by show w.heap.size ≤ w.heap.size + 1; omega) (.int .i64 x)).setCell (p := ⟨w.heap.size + 1, 1, none⟩) (by show w.heap.size ≤ w.heap.size + 1; omega) (.int .i64 y)).setCell (p := ⟨w.heap.size + 1, 2, none⟩) (by show w.heap.size ≤ w.heap.size + 1; omega) (.int .i64 z)).setCell (p := ⟨w.heap.size + 1, 3, none⟩) (by show w.heap.size ≤ w.heap.size + 1; omega) (.slice A2 l.length cap2)
      have HF := Lib.hid hF
      have HO := Lib.hid (And.intro hownF hBf)
      clear hF hs hownF hBf hne hown ro rr hl hBw
      go_wp2
      refine bodyPost_ret (results_cell_row rfl _ _ _ 53 #[.int .i64 x, .int .i64 y, .int .i64 z, .slice A2 l.length cap2] (0, 0) _ rfl HF.out Tryz.underlying53 rfl (by kernel_rfl)) rfl ?_
      exact ⟨⟨_, rfl, HO.out.1⟩, HO.out.2⟩
end Go.Proofs
