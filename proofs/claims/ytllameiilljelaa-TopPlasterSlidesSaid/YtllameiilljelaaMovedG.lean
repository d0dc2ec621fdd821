import Derived.Test.YtllameiilljelaaUndD
import Derived.Test.YtllameiilljelaaInsC
import Derived.Test.YtllameiilljelaaTurn
import Derived.Test.YtllameiilljelaaBoundG
import Derived.Test.YtllameiilljelaaFewR
section
/- insert.Undercuts of a good base along a direction. -/
namespace Go.Proofs
open Go.RowKit
set_option maxHeartbeats 8000000
set_option maxRecDepth 1000000
theorem Undercuts_ok (l : List Cel) (v : Value) (x y z : Int) (Kf : Cel → Nat) (H : Nat) (w : World) (hl : Sl w v l) (hc : chkI l = 0) (hd : dirI (x, y, z) = 0) (hvol : volI (baseB l) ≤ 100000)
    (hK : ∀ c ∈ l, Steps (baseB l) c (x, y, z) (Kf c)) (hH : ∀ c ∈ l, Kf c ≤ H) (hcap : l.length * H ≤ 4096) :
    Calls Try.prog 17 #[v, .agg #[.int .i64 x, .int .i64 y, .int .i64 z]] w fun e w' => ∃ B out, e = .returned (.tuple #[.slice (some ⟨B, 0, none⟩) out.length out.length, .int .i64 0]) ∧ Filled w' B out.length 26 out ∧ Up out ∧ (∀ c, c ∈ out ↔ undM l (x, y, z) Kf l.length c) ∧ Below w.heap.size w w' := by
  obtain ⟨A, cap, rfl⟩ := hl.form
  obtain ⟨hll, hln, -⟩ := chkI_zero.1 hc
  obtain ⟨W0, hW⟩ : ∃ W0, W0 = w.alloc (.cells #[.int .i64 x, .int .i64 y, .int .i64 z] 26) := ⟨_, rfl⟩
  have hB0 : Below w.heap.size w W0 := by subst hW; exact (Below.refl _ _).alloc (Nat.le_refl _) _
  have hsz : W0.heap.size = w.heap.size + 1 := by subst hW; simp
  have c0 : W0.cell? ⟨w.heap.size, 0, none⟩ = some (.int .i64 x) := by subst hW; go_simp
  have c1 : W0.cell? ⟨w.heap.size, 1, none⟩ = some (.int .i64 y) := by subst hW; go_simp
  have c2 : W0.cell? ⟨w.heap.size, 2, none⟩ = some (.int .i64 z) := by subst hW; go_simp
  have kk : ∀ V, Below W0.heap.size W0 V → V.cell? ⟨w.heap.size, 0, none⟩ = some (.int .i64 x) ∧ V.cell? ⟨w.heap.size, 1, none⟩ = some (.int .i64 y) ∧ V.cell? ⟨w.heap.size, 2, none⟩ = some (.int .i64 z) := fun V h =>
    ⟨(h.cell (p := ⟨w.heap.size, 0, none⟩) (by show w.heap.size < _; omega)).trans c0, (h.cell (p := ⟨w.heap.size, 1, none⟩) (by show w.heap.size < _; omega)).trans c1, (h.cell (p := ⟨w.heap.size, 2, none⟩) (by show w.heap.size < _; omega)).trans c2⟩
  have kA := fun V (h : Below W0.heap.size W0 V) => gridCheckG l _ V (hl.below (hB0.trans (h.mono hB0.size))) (by unfold maxLen; omega)
  rw [hc] at kA
  have kU := fun V (h : Below W0.heap.size W0 V) => undercuts_ok l _ x y z Kf H V (hl.below (hB0.trans (h.mono hB0.size))) hc hd hvol hK hH hcap
  have hcd := fun W => checkDir_ok x y z W
  rw [hd] at hcd
  have ho := fun blk W => insFirst2 0 0 blk 2 W
  rw [show orI 0 0 0 = 0 by decide] at ho
  have hX : Below W0.heap.size W0 W0.drew := (Below.refl _ _).drew
  have hky := kk _ hX
  clear hl hc hd hvol hK hH hcap hll hln c0 c1 c2
  go_enter Try.func17, Try.ntmps17
  go_wp2_with fail
  rw [← hW]
  clear hW
  go_region_held3 (fun w' => w'.cell? ⟨w.heap.size, 0, none⟩ = some (.int .i64 x) ∧ w'.cell? ⟨w.heap.size, 1, none⟩ = some (.int .i64 y) ∧ w'.cell? ⟨w.heap.size, 2, none⟩ = some (.int .i64 z)) (first | exact hky | go_keep)
    (first
      | (go_at_call 22; refine (kA _ hX).mono ?_; rintro e w4 ⟨rfl, hB4⟩; have hX := hX.trans (hB4.mono hX.size); have hky := kk _ hX)
      | (go_at_call 23; refine (hcd _).mono ?_; rintro e w5 ⟨rfl, hB5⟩; have hX := hX.trans (hB5.mono hX.size); have hky := kk _ hX)
      | (go_at_call 21; refine (ho _ _ ?_ ?_).mono ?_; (go_simp); (go_simp); rintro e w6 ⟨rfl, rfl⟩; have hX := hX.alloc hX.size (.cells #[.int .i64 0, .int .i64 0] 30); have hky := kk _ hX))
  rename_i hHeld
  clear hHeld
  obtain ⟨e0, e1, e2⟩ := hky
  have kU2 := kU _ hX
  go_wp2_with (go_at_call 43; refine kU2.mono ?_; rintro e w7 ⟨B, out, rfl, -, hF, hu, hm, hB7⟩)
  go_ret2
  exact ⟨B, out, rfl, hF, hu, hm, (hB0.trans (hX.mono hB0.size)).trans (hB7.mono (hB0.trans (hX.mono hB0.size)).size)⟩
end Go.Proofs
end

section
/- moved and Turn of any set's slice (nil and empty ones too). -/
namespace Go.Proofs
open Go.Shelf Go.RowKit Go.Lib Go.Sort
set_option maxHeartbeats 8000000
set_option maxRecDepth 1000000
theorem movedG_turn (l : List Cel) (v : Value) (w : World) (hl : Sl w v l) (hn : l.length ≤ 4096) (p q : Nat) (mv : Cel → Cel)
    (hmv : ∀ c ∈ l, ∀ W, Below w.heap.size w W → Calls Try.prog 40 #[.agg #[.int .i64 c.1, .int .i64 c.2.1, .int .i64 c.2.2], .pointer (some ⟨p, 0, none⟩), .pointer (some ⟨q, 0, none⟩)] W fun e W' => e = .returned (.agg #[.int .i64 (mv c).1, .int .i64 (mv c).2.1, .int .i64 (mv c).2.2]) ∧ Below W.heap.size W W')
    (hfit : ∀ c ∈ l.map mv, vecI c 1000 = 0) (hnd : (l.map mv).Nodup) :
    Calls Try.prog 30 #[v, .func (.func 40) #[] #[.pointer (some ⟨p, 0, none⟩), .pointer (some ⟨q, 0, none⟩)]] w fun e w' => ∃ B, e = .returned (.tuple #[.slice (some ⟨B, 0, none⟩) l.length l.length, .int .i64 0]) ∧ w.heap.size ≤ B ∧ Filled w' B l.length 26 (sortC (l.map mv)) ∧ Below w.heap.size w w' := by
  obtain ⟨j0, hj, hy0, hy1, hy2⟩ := info_parts (P := Try.prog) (e := 26) (z := .agg #[.int .i64 0, .int .i64 0, .int .i64 0]) (size := 3) (bytes := 24) (by kernel_rfl)
  have hml : (l.map mv).length = l.length := List.length_map _
  obtain ⟨m, hmm⟩ : ∃ m, m = l.map mv := ⟨_, rfl⟩
  have hat : ∀ (k : Nat) (c : Cel), l[k]? = some c → m[k]? = some (mv c) := fun k c h => by rw [hmm, List.getElem?_map, h]; rfl
  rw [← hmm] at hfit hnd hml ⊢
  clear hmm
  obtain ⟨A, cap, rfl⟩ := hl.form
  go_enter Try.func30, Try.ntmps30
  go_wp2_with (at_make; refine wpList_make_full _ rfl _ _ 22 rfl w.heap.size 26 j0 _ 3 Try.underlying22 hj hy0 hy1 .i64 .i64 _ _ l.length rfl rfl rfl rfl ?c1 ?c2 ?c3 ?_)
  case c1 => rw [hy2]; omega
  case c2 => unfold maxLen; omega
  case c3 => exact Nat.le_refl _
  intro w1 hown hgrow
  have hF1 := made_filled rfl hown m
  have hB1 : Below w.heap.size w w1 := (Below.refl _ _).grown hgrow (Nat.le_refl _) (fun k hk => by cases hk)
  clear hown hgrow
  go_wp2
  go_loopw [15] (fun i wr => ∃ k : Nat, k ≤ l.length ∧ i = .int .i64 k ∧ Filled wr w.heap.size l.length 26 (m.take k) ∧ w.heap.size < wr.heap.size ∧ Below w.heap.size w wr) (fun i _ => l.length - (intOf i).toNat)
  case atStart => exact ⟨0, Nat.zero_le _, rfl, hF1.1, hF1.2, hB1⟩
  case round =>
    obtain ⟨k, hk, rfl, hF, hlt, hBel⟩ := hrel
    rcases Nat.lt_or_eq_of_le hk with hkn | rfl
    · obtain ⟨b, o, x, y, z, rfl, -, hb, hc, r0, r1, r2⟩ := (hl.below hBel).cells hkn
      have hcm := hmv (x, y, z) (List.mem_of_getElem? hc)
      have hmk := hat k _ hc
      obtain ⟨x', y', z', hxyz⟩ : ∃ x' y' z', mv (x, y, z) = (x', y', z') := ⟨_, _, _, rfl⟩
      rw [hxyz] at hcm hmk
      dsimp only at hcm
      have hBa := hBel.alloc (Nat.le_of_lt hlt) (.cells #[.int .i64 x, .int .i64 y, .int .i64 z] 26)
      have hcall := hcm _ hBa
      have hi0 : (0 : Int) ≤ k := by omega
      have hi1 : (k : Int) < l.length := by omega
      have hFa := hF.below ((Below.refl wr.heap.size wr).alloc (Nat.le_refl _) (.cells #[.int .i64 x, .int .i64 y, .int .i64 z] 26)) hlt
      have hlt2 : w.heap.size < (wr.alloc (.cells #[.int .i64 x, .int .i64 y, .int .i64 z] 26)).heap.size := by simp; omega
      clear hB1 hF1 hl hfit hnd hmv hat hc hcm hxyz hml hF hBel
      go_wp2_with (go_at_call 40; refine hcall.mono ?_; rintro e w2 ⟨rfl, hB2⟩; have hF2 := hFa.below hB2 hlt2; have fz := hF2.fz; obtain ⟨v0, o0⟩ := hF2.old (j := k * 3) (by omega); obtain ⟨v1, o1⟩ := hF2.old (j := k * 3 + 1) (by omega); obtain ⟨v2, o2⟩ := hF2.old (j := k * 3 + 2) (by omega))
      have hsz := hB2.size
      refine ⟨⟨k + 1, hkn, rfl, hF2.put3 hkn hmk, by simp [World.setCell]; omega, below3' (hBa.trans (hB2.mono (Nat.le_of_lt hlt2))) k _ _ _⟩, ?_⟩
      simp [intOf]; omega
    · clear hl hF1 hB1 hmv hat
      rw [List.take_of_length_le (by rw [hml]; exact Nat.le_refl _)] at hF
      have hrow := hF.row
      have hce := checkEach_ok m w.heap.size 0 m.length wr hrow hlt (by rw [hml]; exact hn) hfit
      have hso := fun W (hr : RowAt W w.heap.size 0 m) (hb : w.heap.size < W.heap.size) => sorted_ok m w.heap.size 0 m.length W hr hb (by rw [hml]; exact hn) hnd
      rw [hml] at hce hso
      have hstep : ∀ W, Below wr.heap.size wr W → RowAt W w.heap.size 0 m ∧ w.heap.size < W.heap.size := fun W hW => ⟨(hF.below hW hlt).row, Nat.lt_of_lt_of_le hlt hW.size⟩
      clear hfit hnd hml hrow hF
      go_wp2_with (first
        | (go_at_call 53; refine hce.mono ?_; rintro e w3 ⟨rfl, hB3⟩)
        | (go_at_call 54; refine (hso w3 (hstep w3 hB3).1 (hstep w3 hB3).2).mono ?_; rintro e w4 ⟨B, rfl, hB, hFB, hB4⟩))
      go_ret2
      have h3 := hB3.size
      exact ⟨B, rfl, by omega, hFB, (hBel.trans (hB3.mono (Nat.le_of_lt hlt))).trans (hB4.mono (by omega))⟩

end Go.Proofs
end
