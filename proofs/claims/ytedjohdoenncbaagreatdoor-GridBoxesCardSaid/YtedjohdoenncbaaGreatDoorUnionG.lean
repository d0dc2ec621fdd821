import Derived.Test.YtedjohdoenncbaaGreatDoorUnionR
import Derived.Lib.AppendZeros
import Derived.WalkKit
import Derived.Test.YtedjohdoenncbaaGreatDoorCheckG
import Derived.Test.YtedjohdoenncbaaGreatDoorSortedG
section
/- slices.Concat of two lists of cells. -/
namespace Go.Proofs
open Go.RowKit
set_option maxHeartbeats 8000000
set_option maxRecDepth 1000000
theorem own_zeros (w : World) (cur : Array Value) (cap : Nat) (hm : cap ≤ maxLen) (hs : cur.size = cap * 3) :
    Own (w.drew.alloc (.cells cur 38)) w.heap.size (.slice (some ⟨w.heap.size, 0, none⟩) 0 cap) [] := World.ownsRow_made w.drew cur cap (Nat.le_refl _) hm hs
theorem grow_ok (n : Nat) (hn : n ≤ 1000000) (w : World) :
    Calls Tryz.prog 147 #[.slice none 0 0, .int .i64 n] w fun e w' => ∃ v', e = .returned v' ∧ Own w' w.heap.size v' [] ∧ Below w.heap.size w w' := by
  obtain ⟨j0, hj, hy0, hy1, hy2⟩ := info_parts (P := Tryz.prog) (e := 38) (z := .agg #[.int .i64 0, .int .i64 0, .int .i64 0]) (size := 3) (bytes := 24) (by kernel_rfl)
  rcases Nat.eq_zero_or_pos n with rfl | hpos
  · go_enter Tryz.func147, Tryz.ntmps147
    go_wp2
    go_ret
    exact ⟨_, rfl, Own.nil _ _, Below.refl _ _⟩
  · have hap := Lib.run_append_nil_zeros (P := Tryz.prog) w 22 3 22 38 j0 _ .i64 .i64 Tryz.underlying22 Tryz.underlying3 hj hy0 n hpos (by rw [hy1]; decide) (by omega) (by rw [hy2]; omega)
    have hge := grownCap_ge w n 0 38
    have hle := grownCap_le_maxLen w n 0 38 (by unfold maxLen; omega)
    generalize grownCap w n 0 38 = cap at hap hge hle
    have hsz : (Builtin.zeroCells (Value.agg #[.int .i64 0, .int .i64 0, .int .i64 0]).cells n ++ Builtin.zeroCells (Value.agg #[.int .i64 0, .int .i64 0, .int .i64 0]).cells (cap - n)).size = cap * 3 := by
      rw [Array.size_append, size_zeroCells, size_zeroCells]
      show n * 3 + (cap - n) * 3 = cap * 3
      omega
    generalize (Builtin.zeroCells (Value.agg #[.int .i64 0, .int .i64 0, .int .i64 0]).cells n ++ Builtin.zeroCells (Value.agg #[.int .i64 0, .int .i64 0, .int .i64 0]).cells (cap - n)) = cur at hap hsz
    have hown := own_zeros w cur cap hle hsz
    have hn0 : (0 : Int) < n := by omega
    go_enter Tryz.func147, Tryz.ntmps147
    go_wp2_with (at_builtin; refine Lib.wpList_append_run _ rfl _ _ _ _ rfl _ _ rfl rfl _ _ hap ?_)
    go_ret
    exact ⟨_, rfl, hown, ((Below.refl w.heap.size w).alloc (Nat.le_refl _) _).drew⟩
theorem flatten_take {Ls : List (List Cel)} {k : Nat} {l : List Cel} (hl : Ls[k]? = some l) : (Ls.take (k + 1)).flatten = (Ls.take k).flatten ++ l := by
  obtain ⟨h1, h2⟩ := List.getElem?_eq_some_iff.1 hl
  rw [List.take_succ_eq_append_getElem h1, h2, List.flatten_append]
  simp
theorem flatten_take_le (Ls : List (List Cel)) (k : Nat) : (Ls.take k).flatten.length ≤ Ls.flatten.length := by
  have h : Ls.flatten = (Ls.take k).flatten ++ (Ls.drop k).flatten := by rw [← List.flatten_append, List.take_append_drop]
  rw [h, List.length_append]
  omega
theorem concat_ok (vs : List Value) (Ls : List (List Cel)) (blk off cap : Nat) (w : World) (hlen : vs.length = Ls.length) (hcap : vs.length ≤ 1000) (hb : blk < w.heap.size)
    (hrow : ∀ (i : Nat) (v : Value), vs[i]? = some v → w.cell? ⟨blk, off + i, none⟩ = some v) (hsl : ∀ (i : Nat) (v : Value) (l : List Cel), vs[i]? = some v → Ls[i]? = some l → Sl w v l) (htot : Ls.flatten.length ≤ 1000000) :
    Calls Tryz.prog 82 #[.slice (some ⟨blk, off, none⟩) vs.length cap] w fun e w' => ∃ v', e = .returned v' ∧ Own w' w.heap.size v' Ls.flatten ∧ Below w.heap.size w w' := by
  have hle1 : vs.length ≤ Ls.length := by omega
  have hle2 : Ls.length ≤ vs.length := by omega
  clear hlen
  go_enter Tryz.func82, Tryz.ntmps82
  go_wp2
  go_loopw [3, 11] (fun s i wr => ∃ k : Nat, k ≤ vs.length ∧ i = .int .i64 k ∧ s = .int .i64 ((Ls.take k).flatten.length : Nat) ∧ wr = w) (fun _ i _ => vs.length - (intOf i).toNat)
  case atStart => exact ⟨0, Nat.zero_le _, rfl, rfl, rfl⟩
  case round =>
    obtain ⟨k, hk, rfl, rfl, rfl⟩ := hrel
    rename World => w1
    have hft := flatten_take_le Ls k
    rcases Nat.lt_or_eq_of_le hk with hkn | rfl
    · obtain ⟨v, hv⟩ : ∃ v, vs[k]? = some v := ⟨_, List.getElem?_eq_getElem hkn⟩
      obtain ⟨l, hl⟩ : ∃ l, Ls[k]? = some l := ⟨_, List.getElem?_eq_getElem (by omega)⟩
      have hs := hsl k v l hv hl
      have hr := hrow k v hv
      obtain ⟨A, lcap, rfl⟩ := hs.form
      have hk0 : (0 : Int) ≤ k := by omega
      have hk1 : (k : Int) < vs.length := by omega
      have hf1 := flatten_take hl
      have hft1 := flatten_take_le Ls (k + 1)
      rw [hf1, List.length_append] at hft1
      have Hf1 := Lib.hid hf1
      clear hrow hsl hs hv hl hf1
      generalize hp : (Ls.take k).flatten.length = p at hft hft1 ⊢
      have Hp := Lib.hid hp
      clear hp
      go_wp2
      exact ⟨⟨k + 1, hkn, rfl, by rw [Hf1.out, List.length_append, Hp.out]; rfl, trivial⟩, by simp [intOf]; omega⟩
    · have htk : (Ls.take vs.length).flatten.length = Ls.flatten.length := by rw [List.take_of_length_le hle2]
      simp only [htk]
      clear hft htk
      have htot2 := htot
      generalize hT : Ls.flatten.length = T at htot ⊢
      have HT := Lib.hid hT
      clear hT
      go_wp2_with (go_at_call 147; refine (grow_ok T htot _).mono ?_; rintro e w2 ⟨v2, rfl, hown2, hB2⟩)
      have hB20 : Below w1.heap.size w1 w2 := hB2
      have hown20 := hown2
      clear hown2 hB2
      go_loopw [6, 27] (fun s i wr => ∃ k : Nat, k ≤ vs.length ∧ i = .int .i64 k ∧ Own wr w1.heap.size s (Ls.take k).flatten ∧ Below w1.heap.size w1 wr) (fun _ i _ => vs.length - (intOf i).toNat)
      case atStart => exact ⟨0, Nat.zero_le _, rfl, hown20, hB20⟩
      case round =>
        obtain ⟨k, hk, rfl, hown, hBel⟩ := hrel
        rename World => w3
        have hft := flatten_take_le Ls
        rcases Nat.lt_or_eq_of_le hk with hkn | rfl
        · obtain ⟨v, hv⟩ : ∃ v, vs[k]? = some v := ⟨_, List.getElem?_eq_getElem hkn⟩
          obtain ⟨l, hl⟩ : ∃ l, Ls[k]? = some l := ⟨_, List.getElem?_eq_getElem (by omega)⟩
          have hs := (hsl k v l hv hl).below hBel
          have hr := (hBel.cell (p := ⟨blk, _, none⟩) hb).trans (hrow k v hv)
          have hk0 : (0 : Int) ≤ k := by omega
          have hk1 : (k : Int) < vs.length := by omega
          have hf1 := flatten_take hl
          have hft1 := hft (k + 1)
          rw [hf1, List.length_append] at hft1
          have Hf1 := Lib.hid hf1
          clear hrow hsl hv hl hf1 hft hown20 hB20
          go_wp2_with (at_builtin; refine wpList_append_sl rfl _ _ rfl w1.heap.size hBel.size _ (Ls.take k).flatten rfl hown _ l rfl hs ?cC ?_)
          case cC => omega
          intro v4 w4 hown4 hB4
          have hBel4 := hBel.trans hB4
          clear hown hs hr hB4
          go_wp2
          exact ⟨⟨k + 1, hkn, rfl, by rw [Hf1.out]; exact hown4, hBel4⟩, by simp [intOf]; omega⟩
        · rw [List.take_of_length_le hle2] at hown
          clear hrow hsl hown20 hB20 hft
          go_wp2
          go_ret
          exact ⟨_, rfl, hown, hBel⟩
end Go.Proofs
end

section
/- grid.Union, for any two lists. -/
namespace Go.Proofs
open Go.RowKit
set_option maxHeartbeats 8000000
set_option maxRecDepth 1000000
theorem chk_len {l : List Cel} (h : chkI l = 0) : l.length ≤ 4096 := by
  unfold chkI at h
  split at h
  · cases h
  · omega
theorem unionG_ok (a b : List Cel) (va vb : Value) (w : World) (ha : Sl w va a) (hb : Sl w vb b) (ca : chkI a = 0) (cb : chkI b = 0) :
    Calls Tryz.prog 15 #[va, vb] w fun e w' => ∃ B out, (out.length ≤ 4096 ∧ e = .returned (.tuple #[.slice (some ⟨B, 0, none⟩) out.length out.length, .int .i64 0]) ∨ 4096 < out.length ∧ e = .returned (.tuple #[.slice none 0 0, .int .i64 5])) ∧ w.heap.size ≤ B ∧ Filled w' B out.length 38 out ∧ Up out ∧ (∀ c, c ∈ out ↔ c ∈ a ∨ c ∈ b) ∧ Below w.heap.size w w' := by
  have la := chk_len ca
  have lb := chk_len cb
  have h1 := gridCheckG a va w ha (by unfold maxLen; omega)
  have h2 := fun W (h : Below w.heap.size w W) => gridCheckG b vb W (hb.below h) (by unfold maxLen; omega)
  rw [ca] at h1
  rw [cb] at h2
  obtain ⟨A, acap, rfl⟩ := ha.form
  obtain ⟨A', bcap, rfl⟩ := hb.form
  have hcc : ∀ W blk, Below w.heap.size w W → blk < W.heap.size → W.cell? ⟨blk, 0, none⟩ = some (.slice A a.length acap) → W.cell? ⟨blk, 1, none⟩ = some (.slice A' b.length bcap) →
      Calls Tryz.prog 82 #[.slice (some ⟨blk, 0, none⟩) 2 2] W fun e w' => ∃ v', e = .returned v' ∧ Own w' W.heap.size v' (a ++ b) ∧ Below W.heap.size W w' := fun W blk hW hblk e0 e1 => by
    have h := concat_ok [.slice A a.length acap, .slice A' b.length bcap] [a, b] blk 0 2 W rfl (by simp) hblk (fun i v h => by
      match i, h with
      | 0, h => simp at h; subst h; exact e0
      | 1, h => simp at h; subst h; exact e1
      | i + 2, h => simp at h) (fun i v l h h' => by
      match i, h, h' with
      | 0, h, h' => simp at h h'; subst h h'; exact ha.below hW
      | 1, h, h' => simp at h h'; subst h h'; exact hb.below hW
      | i + 2, h, _ => simp at h) (by simp; omega)
    have e : [a, b].flatten = a ++ b := by simp
    rw [e] at h
    exact h
  clear ca cb
  go_enter Tryz.func15, Tryz.ntmps15
  go_wp2_with fail
  refine h1.mono ?_
  rintro e w2 ⟨rfl, hB2⟩
  have h2' := h2 w2 hB2
  clear h1 h2
  go_wp2_with fail
  refine h2'.mono ?_
  rintro e w3 ⟨rfl, hB3⟩
  have hB03 := hB2.trans (hB3.mono hB2.size)
  clear h2' hB2 hB3
  have hor : orI 0 0 0 = 0 := by decide
  go_wp2_with (go_at_call 81; refine (first2_ok 0 0 _ _ _ ?_ ?_).mono ?_; (go_simp); (go_simp); rintro e w5 ⟨rfl, hw5⟩; subst hw5)
  obtain ⟨W, hW⟩ : ∃ W, W = (w3.alloc (.cells #[.int .i64 0, .int .i64 0] 27)).alloc (.cells #[.slice A a.length acap, .slice A' b.length bcap] 22) := ⟨_, rfl⟩
  have hBW : Below w.heap.size w W := by subst hW; exact (hB03.alloc hB03.size _).alloc (by have := hB03.size; simp; omega) _
  have hlW : w3.heap.size + 1 < W.heap.size := by subst hW; simp
  have e0 : W.cell? ⟨w3.heap.size + 1, 0, none⟩ = some (.slice A a.length acap) := by subst hW; go_simp
  have e1 : W.cell? ⟨w3.heap.size + 1, 1, none⟩ = some (.slice A' b.length bcap) := by subst hW; go_simp
  have hc := hcc W _ hBW hlW e0 e1
  rw [← hW]
  clear hW hcc e0 e1 hlW
  refine hc.mono ?_
  rintro e w6 ⟨v6, rfl, hown6, hB6⟩
  have hs := sortedG (a ++ b) v6 w6 hown6.sl (by rw [List.length_append]; omega)
  have hB06 := hBW.trans (hB6.mono hBW.size)
  clear hown6 hB6 hc ha hb
  go_wp2_with (go_at_call 80; refine hs.mono ?_; rintro e w7 ⟨B, out, rfl, hBB, hF, hup, hmem, hB7⟩)
  all_goals go_ret2
  all_goals have hm : ∀ c, c ∈ out ↔ c ∈ a ∨ c ∈ b := fun c => (hmem c).trans List.mem_append
  · exact ⟨B, out, .inr ⟨by omega, rfl⟩, Nat.le_trans hB06.size hBB, hF, hup, hm, hB06.trans (hB7.mono hB06.size)⟩
  · exact ⟨B, out, .inl ⟨by omega, rfl⟩, Nat.le_trans hB06.size hBB, hF, hup, hm, hB06.trans (hB7.mono hB06.size)⟩
theorem unionG_bad1 (a b : List Cel) (va vb : Value) (w : World) (ha : Sl w va a) (hb : Sl w vb b) (la : a.length ≤ maxLen) (lb : b.length ≤ maxLen) (r : Int) (hr : orI (chkI a) (chkI b) 0 = r) (h0 : r ≠ 0) :
    Calls Tryz.prog 15 #[va, vb] w fun e w' => e = .returned (.tuple #[.slice none 0 0, .int .i64 r]) ∧ Below w.heap.size w w' := by
  have h1 := gridCheckG a va w ha la
  have h2 := fun W (h : Below w.heap.size w W) => gridCheckG b vb W (hb.below h) lb
  generalize chkI a = ra at h1 hr
  generalize chkI b = rb at h2 hr
  have hne : (r == 0) = false := by rw [beq_eq_false_iff_ne]; exact h0
  have hne' : (r != 0) = true := by rw [bne_iff_ne]; exact h0
  have hf2 := fun blk W => first2_ok ra rb blk 2 W
  simp only [hr] at hf2
  clear ha hb la lb hr h0
  go_enter Tryz.func15, Tryz.ntmps15
  go_wp2_with fail
  refine h1.mono ?_
  rintro e w2 ⟨rfl, hB2⟩
  have h2' := h2 w2 hB2
  clear h1 h2
  go_wp2_with fail
  refine h2'.mono ?_
  rintro e w3 ⟨rfl, hB3⟩
  have hB03 := hB2.trans (hB3.mono hB2.size)
  clear h2' hB2 hB3
  go_wp2_with (go_at_call 81; refine (hf2 _ _ ?_ ?_).mono ?_; (go_simp); (go_simp); rintro e w5 ⟨rfl, hw5⟩; subst hw5)
  go_ret2
  exact ⟨rfl, hB03.alloc hB03.size _⟩
end Go.Proofs
end
