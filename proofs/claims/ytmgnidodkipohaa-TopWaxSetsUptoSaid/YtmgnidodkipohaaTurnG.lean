import Derived.Test.YtmgnidodkipohaaTurn
import Derived.Test.YtmgnidodkipohaaCheckG
import Derived.Test.YtmgnidodkipohaaGoodT
import Derived.Test.YtmgnidodkipohaaFewR
section
/- moved and Turn of any set's slice (nil and empty ones too). -/
namespace Go.Proofs
open Go.Shelf Go.RowKit Go.Lib Go.Sort
set_option maxHeartbeats 8000000
set_option maxRecDepth 1000000
theorem movedG_turn (l : List Cel) (v : Value) (w : World) (hl : Sl w v l) (hn : l.length ≤ 4096) (p q : Nat) (mv : Cel → Cel)
    (hmv : ∀ c ∈ l, ∀ W, Below w.heap.size w W → Calls Try.prog 56 #[.agg #[.int .i64 c.1, .int .i64 c.2.1, .int .i64 c.2.2], .pointer (some ⟨p, 0, none⟩), .pointer (some ⟨q, 0, none⟩)] W fun e W' => e = .returned (.agg #[.int .i64 (mv c).1, .int .i64 (mv c).2.1, .int .i64 (mv c).2.2]) ∧ Below W.heap.size W W')
    (hfit : ∀ c ∈ l.map mv, vecI c 1000 = 0) (hnd : (l.map mv).Nodup) :
    Calls Try.prog 55 #[v, .func (.func 56) #[] #[.pointer (some ⟨p, 0, none⟩), .pointer (some ⟨q, 0, none⟩)]] w fun e w' => ∃ B, e = .returned (.tuple #[.slice (some ⟨B, 0, none⟩) l.length l.length, .int .i64 0]) ∧ w.heap.size ≤ B ∧ Filled w' B l.length 32 (sortC (l.map mv)) ∧ Below w.heap.size w w' := by
  obtain ⟨j0, hj, hy0, hy1, hy2⟩ := info_parts (P := Try.prog) (e := 32) (z := .agg #[.int .i64 0, .int .i64 0, .int .i64 0]) (size := 3) (bytes := 24) (by kernel_rfl)
  have hml : (l.map mv).length = l.length := List.length_map _
  obtain ⟨m, hmm⟩ : ∃ m, m = l.map mv := ⟨_, rfl⟩
  have hat : ∀ (k : Nat) (c : Cel), l[k]? = some c → m[k]? = some (mv c) := fun k c h => by rw [hmm, List.getElem?_map, h]; rfl
  rw [← hmm] at hfit hnd hml ⊢
  clear hmm
  obtain ⟨A, cap, rfl⟩ := hl.form
  go_enter Try.func55, Try.ntmps55
  go_wp2_with (at_make; refine wpList_make_full _ rfl _ _ 22 rfl w.heap.size 32 j0 _ 3 Try.underlying22 hj hy0 hy1 .i64 .i64 _ _ l.length rfl rfl rfl rfl ?c1 ?c2 ?c3 ?_)
  case c1 => rw [hy2]; omega
  case c2 => unfold maxLen; omega
  case c3 => exact Nat.le_refl _
  intro w1 hown hgrow
  have hF1 := made_filled rfl hown m
  have hB1 : Below w.heap.size w w1 := (Below.refl _ _).grown hgrow (Nat.le_refl _) (fun k hk => by cases hk)
  clear hown hgrow
  go_wp2
  go_loopw [15] (fun i wr => ∃ k : Nat, k ≤ l.length ∧ i = .int .i64 k ∧ Filled wr w.heap.size l.length 32 (m.take k) ∧ w.heap.size < wr.heap.size ∧ Below w.heap.size w wr) (fun i _ => l.length - (intOf i).toNat)
  case atStart => exact ⟨0, Nat.zero_le _, rfl, hF1.1, hF1.2, hB1⟩
  case round =>
    obtain ⟨k, hk, rfl, hF, hlt, hBel⟩ := hrel
    rcases Nat.lt_or_eq_of_le hk with hkn | rfl
    · obtain ⟨b, o, x, y, z, rfl, -, hb, hc, r0, r1, r2⟩ := (hl.below hBel).cells hkn
      have hcm := hmv (x, y, z) (List.mem_of_getElem? hc)
      have hmk := hat k _ hc
      obtain ⟨x', y', z', hxyz⟩ : ∃ x' y' z', mv (x, y, z) = (x', y', z') := ⟨_, _, _, rfl⟩
      rw [hxyz] at hcm hmk
      dsimp only at hcm
      have hBa := hBel.alloc (Nat.le_of_lt hlt) (.cells #[.int .i64 x, .int .i64 y, .int .i64 z] 32)
      have hcall := hcm _ hBa
      have hi0 : (0 : Int) ≤ k := by omega
      have hi1 : (k : Int) < l.length := by omega
      have hFa := hF.below ((Below.refl wr.heap.size wr).alloc (Nat.le_refl _) (.cells #[.int .i64 x, .int .i64 y, .int .i64 z] 32)) hlt
      have hlt2 : w.heap.size < (wr.alloc (.cells #[.int .i64 x, .int .i64 y, .int .i64 z] 32)).heap.size := by simp; omega
      clear hB1 hF1 hl hfit hnd hmv hat hc hcm hxyz hml hF hBel
      go_wp2_with (go_at_call 56; refine hcall.mono ?_; rintro e w2 ⟨rfl, hB2⟩; have hF2 := hFa.below hB2 hlt2; have fz := hF2.fz; obtain ⟨v0, o0⟩ := hF2.old (j := k * 3) (by omega); obtain ⟨v1, o1⟩ := hF2.old (j := k * 3 + 1) (by omega); obtain ⟨v2, o2⟩ := hF2.old (j := k * 3 + 2) (by omega))
      have hsz := hB2.size
      refine ⟨⟨k + 1, hkn, rfl, hF2.put3 hkn hmk, by simp [World.setCell]; omega, below3' (hBa.trans (hB2.mono (Nat.le_of_lt hlt2))) k _ _ _⟩, ?_⟩
      simp [intOf]; omega
    · clear hl hF1 hB1 hmv hat
      rw [List.take_of_length_le (by rw [hml]; exact Nat.le_refl _)] at hF
      have hrow := hF.row
      have hce := checkEach_ok m w.heap.size 0 m.length wr hrow hlt (by rw [hml]; exact hn) hfit
      have hso := fun W (hr : RowAt W w.heap.size 0 m) (hb : w.heap.size < W.heap.size) => sorted_ok m w.heap.size 0 m.length W hr hb (by rw [hml]; exact hn) hnd
      rw [hml] at hce hso
      have hstep : ∀ W, Below wr.heap.size wr W → RowAt W w.heap.size 0 m ∧ w.heap.size < W.heap.size := fun W hW => ⟨(hF.below hW hlt).row, Nat.lt_of_lt_of_le hlt hW.size⟩
      clear hfit hnd hml hrow hF
      go_wp2_with (first
        | (go_at_call 66; refine hce.mono ?_; rintro e w3 ⟨rfl, hB3⟩)
        | (go_at_call 42; refine (hso w3 (hstep w3 hB3).1 (hstep w3 hB3).2).mono ?_; rintro e w4 ⟨B, rfl, hB, hFB, hB4⟩))
      go_ret2
      have h3 := hB3.size
      exact ⟨B, rfl, by omega, hFB, (hBel.trans (hB3.mono (Nat.le_of_lt hlt))).trans (hB4.mono (by omega))⟩

end Go.Proofs
end

section
/- Turn of any set's slice. -/
namespace Go.Proofs
open Go.RowKit
set_option maxHeartbeats 8000000
set_option maxRecDepth 1000000
theorem turnG_ok (l : List Cel) (v : Value) (n : Nat) (hn24 : n < 24) (o : Cel) (w : World) (hl : Sl w v l) (hn : l.length ≤ 4096) (hchk : chkI l = 0) (ho : vecI o 1000 = 0)
    (h6 : (turnA n).1 < 6 ∧ (turnA n).2.1 < 6 ∧ (turnA n).2.2 < 6) (hob : (-1000 ≤ o.1 ∧ o.1 ≤ 1000) ∧ (-1000 ≤ o.2.1 ∧ o.2.1 ≤ 1000) ∧ (-1000 ≤ o.2.2 ∧ o.2.2 ≤ 1000))
    (hfit2 : ∀ c ∈ l.map (turnC (turnA n).1 (turnA n).2.1 (turnA n).2.2 o), vecI c 1000 = 0) (hnd : (l.map (turnC (turnA n).1 (turnA n).2.1 (turnA n).2.2 o)).Nodup) (hbig : ∀ c ∈ l, (-1000 ≤ c.1 ∧ c.1 ≤ 1000) ∧ (-1000 ≤ c.2.1 ∧ c.2.1 ≤ 1000) ∧ (-1000 ≤ c.2.2 ∧ c.2.2 ≤ 1000)) :
    Calls Try.prog 21 #[v, .int .i64 n, .agg #[.int .i64 o.1, .int .i64 o.2.1, .int .i64 o.2.2]] w fun e w' => ∃ B, e = .returned (.tuple #[.slice (some ⟨B, 0, none⟩) l.length l.length, .int .i64 0]) ∧ w.heap.size ≤ B ∧ Filled w' B l.length 32 (sortC (l.map (turnC (turnA n).1 (turnA n).2.1 (turnA n).2.2 o))) ∧ Below w.heap.size w w' := by
  obtain ⟨ox, oy, oz⟩ := o
  have hform := hl.form
  have hix := fun W => turn_index n hn24 W
  generalize turnA n = tn at hix h6 hfit2 hnd ⊢
  obtain ⟨a, b, c⟩ := tn
  dsimp only at hix h6 hfit2 hnd hob ⊢
  have hmf : ∀ (fn : Fn) (first cap : Array Value) (w : World), (Instr.makeFunc fn first cap).run Try.prog w = .ok (.func fn first cap) w := fun _ _ _ _ => rfl
  have hwj : withinI n 0 23 = 0 := by unfold withinI; rw [if_neg (by omega)]
  have hcc := fun W => checkCell_ok ox oy oz W
  rw [ho] at hcc
  obtain ⟨W, hW⟩ : ∃ W, W = (w.alloc (.cells #[.int .i64 ox, .int .i64 oy, .int .i64 oz] 32)) := ⟨_, rfl⟩
  have b0 : W.cell? ⟨w.heap.size, 0, none⟩ = some (.int .i64 ox) := by subst hW; go_simp
  have b1 : W.cell? ⟨w.heap.size, 1, none⟩ = some (.int .i64 oy) := by subst hW; go_simp
  have b2 : W.cell? ⟨w.heap.size, 2, none⟩ = some (.int .i64 oz) := by subst hW; go_simp
  have hBW : Below w.heap.size w W := by subst hW; exact (Below.refl _ _).alloc (Nat.le_refl _) _
  have hs : w.heap.size < W.heap.size := by subst hW; simp
  have hck := gridCheckG l v W.drew ((hl.below hBW).below (Below.refl _ _).drew) (by unfold maxLen; omega)
  rw [hchk] at hck
  have hmov : ∀ W6, Below W.heap.size W W6 → Calls Try.prog 55 #[v, .func (.func 56) #[] #[.pointer (some ⟨W6.heap.size, 0, none⟩), .pointer (some ⟨w.heap.size, 0, none⟩)]] (W6.alloc (.cells #[.int .i64 a, .int .i64 b, .int .i64 c] 87)) fun e w' => ∃ B, e = .returned (.tuple #[.slice (some ⟨B, 0, none⟩) l.length l.length, .int .i64 0]) ∧ w.heap.size ≤ B ∧ Filled w' B l.length 32 (sortC (l.map (turnC a b c (ox, oy, oz)))) ∧ Below w.heap.size w w' := fun W6 h6' => by
    obtain ⟨W5, hW5⟩ : ∃ W5, W5 = (W6.alloc (.cells #[.int .i64 a, .int .i64 b, .int .i64 c] 87)) := ⟨_, rfl⟩
    have p0 : W5.cell? ⟨W6.heap.size, 0, none⟩ = some (.int .i64 a) := by subst hW5; go_simp
    have p1 : W5.cell? ⟨W6.heap.size, 1, none⟩ = some (.int .i64 b) := by subst hW5; go_simp
    have p2 : W5.cell? ⟨W6.heap.size, 2, none⟩ = some (.int .i64 c) := by subst hW5; go_simp
    have hp5 : W6.heap.size < W5.heap.size := by subst hW5; simp
    have h5 : Below W.heap.size W W5 := by subst hW5; exact h6'.alloc h6'.size _
    rw [← hW5]
    clear hW5
    have h5' : Below w.heap.size w W5 := hBW.trans (h5.mono hBW.size)
    refine (movedG_turn l v W5 (hl.below h5') hn W6.heap.size w.heap.size (turnC a b c (ox, oy, oz)) (fun d hd W7 h7 => ?_) hfit2 hnd).mono ?_
    · obtain ⟨k1, k2, k3⟩ := hbig d hd
      have hs5 : w.heap.size < W5.heap.size := Nat.lt_of_lt_of_le hs h5.size
      exact turn1_ok a b c h6.1 h6.2.1 h6.2.2 d.1 d.2.1 d.2.2 ox oy oz W6.heap.size w.heap.size W7 ((h7.cell (p := ⟨W6.heap.size, 0, none⟩) hp5).trans p0) ((h7.cell (p := ⟨W6.heap.size, 1, none⟩) hp5).trans p1) ((h7.cell (p := ⟨W6.heap.size, 2, none⟩) hp5).trans p2) (Nat.lt_of_lt_of_le hp5 h7.size)
        ((h7.cell (p := ⟨w.heap.size, 0, none⟩) hs5).trans ((h5.cell (p := ⟨w.heap.size, 0, none⟩) hs).trans b0)) ((h7.cell (p := ⟨w.heap.size, 1, none⟩) hs5).trans ((h5.cell (p := ⟨w.heap.size, 1, none⟩) hs).trans b1))
        ((h7.cell (p := ⟨w.heap.size, 2, none⟩) hs5).trans ((h5.cell (p := ⟨w.heap.size, 2, none⟩) hs).trans b2)) (Nat.lt_of_lt_of_le hs5 h7.size) k1 k2 k3 hob.1 hob.2.1 hob.2.2
    · rintro e w' ⟨B, rfl, hB, hF, hBe⟩
      exact ⟨B, rfl, Nat.le_trans h5'.size hB, hF, h5'.trans (hBe.mono h5'.size)⟩
  clear hfit2 hnd hbig hl hob h6 ho
  obtain ⟨A, cap, rfl⟩ : ∃ (A : Option Addr) (cap : Nat), v = .slice A l.length cap := hform
  go_enter Try.func21, Try.ntmps21
  go_wp2
  rw [← hW]
  clear hW hchk hBW
  go_region_held3 (fun w' => w'.cell? ⟨w.heap.size, 0, none⟩ = some (.int .i64 ox) ∧ w'.cell? ⟨w.heap.size, 1, none⟩ = some (.int .i64 oy) ∧ w'.cell? ⟨w.heap.size, 2, none⟩ = some (.int .i64 oz)) (first | exact ⟨e0, e1, e2⟩ | exact ⟨c0, c1, c2⟩ | exact ⟨b0, b1, b2⟩ | go_keep) (first
    | (go_at_call 41; refine hck.mono ?_; rintro e w2 ⟨rfl, hB2⟩; have c0 : w2.cell? ⟨w.heap.size, 0, none⟩ = some (.int .i64 ox) := (hB2.cell (p := ⟨w.heap.size, 0, none⟩) hs).trans b0; have c1 : w2.cell? ⟨w.heap.size, 1, none⟩ = some (.int .i64 oy) := (hB2.cell (p := ⟨w.heap.size, 1, none⟩) hs).trans b1; have c2 : w2.cell? ⟨w.heap.size, 2, none⟩ = some (.int .i64 oz) := (hB2.cell (p := ⟨w.heap.size, 2, none⟩) hs).trans b2; have hs2 : w.heap.size < w2.heap.size := Nat.lt_of_lt_of_le hs hB2.size)
    | (go_at_call 53; refine (within_ok _ _ _ _).mono ?_; rintro e w3 ⟨rfl, hw3⟩; subst hw3; try simp only [hwj])
    | (go_at_call 48; refine (hcc _).mono ?_; rintro e w4 ⟨rfl, hB4⟩; have e0 := (hB4.cell (p := ⟨w.heap.size, 0, none⟩) hs2).trans c0; have e1 := (hB4.cell (p := ⟨w.heap.size, 1, none⟩) hs2).trans c1; have e2 := (hB4.cell (p := ⟨w.heap.size, 2, none⟩) hs2).trans c2)
    | (go_at_call 40; refine (first3_ok 0 0 0 _ _ _ ?_ ?_ ?_).mono ?_; (go_simp); (go_simp); (go_simp); rintro e w5 ⟨rfl, hw5⟩; subst hw5))
  have hWe : Below W.heap.size W w3 := ⟨hB2.os, hB2.tape, hB2.output, hB2.size, hB2.block⟩
  have hWg := hWe.trans (hB4.mono hWe.size)
  have hWf := hWg.alloc hWg.size (.cells #[.int .i64 0, .int .i64 0, .int .i64 0] 27)
  have hor : orI 0 0 0 = 0 := by decide
  clear hB2 hB4 hWe hWg hck hwj hcc b0 b1 b2 c0 c1 c2 e0 e1 e2 hs2
  go_wp2_with (first
    | (go_at_call 54; refine (turns_ok _).mono ?_; rintro e w9 ⟨rfl, hB9⟩)
    | (go_at_call 55; refine (hmov w9 (hWf.trans (hB9.mono hWf.size))).mono ?_; rintro e w7 ⟨B, rfl, hB7, hF7, hB8⟩))
  go_ret2
  exact ⟨B, rfl, hB7, hF7, hB8⟩
end Go.Proofs
end
