import Derived.Test.YtfdhppdkgfioaaaGreatDoorInsR
import Derived.Laws.AppendOwnNone
import Derived.Test.YtfdhppdkgfioaaaGreatDoorSl
section
/- A part of what UnionR had: Own.mono, flatC_at3, flatC_len3, flatC_one3, own_of, row_one, sl_cells, wpList_a. -/
namespace Go.Proofs
open Go.RowKit
set_option maxHeartbeats 8000000
set_option maxRecDepth 1000000
theorem flatC_len3 (l : List Cel) : (flatC l).length = l.length * 3 := by
  induction l with
  | nil => rfl
  | cons c l ih => rw [flatC_cons]; simp [ih]; omega
theorem flatC_one3 {l : List Cel} : ∀ u ∈ flatC l, u.oneCell' = true := by
  induction l with
  | nil => intro u hu; simp [flatC] at hu
  | cons c l ih =>
    intro u hu
    rw [flatC_cons] at hu
    simp only [List.mem_cons] at hu
    rcases hu with rfl | rfl | rfl | hu
    · rfl
    · rfl
    · rfl
    · exact ih u hu
theorem flatC_at3 {l : List Cel} {j : Nat} {u : Value} (h : (flatC l)[j]? = some u) : ∃ c, l[j / 3]? = some c ∧ (j % 3 = 0 ∧ u = .int .i64 c.1 ∨ j % 3 = 1 ∧ u = .int .i64 c.2.1 ∨ j % 3 = 2 ∧ u = .int .i64 c.2.2) := by
  have hj : j < l.length * 3 := by
    have := (List.getElem?_eq_some_iff.1 h).1
    rwa [flatC_len3] at this
  have hk : j / 3 < l.length := by omega
  refine ⟨l[j/3], List.getElem?_eq_getElem hk, ?_⟩
  obtain ⟨h0, h1, h2⟩ := flatC_get (List.getElem?_eq_getElem hk)
  rcases (show j % 3 = 0 ∨ j % 3 = 1 ∨ j % 3 = 2 by omega) with hr | hr | hr
  · rw [show j / 3 * 3 = j by omega, h] at h0
    exact .inl ⟨hr, Option.some.inj h0⟩
  · rw [show j / 3 * 3 + 1 = j by omega, h] at h1
    exact .inr (.inl ⟨hr, Option.some.inj h1⟩)
  · rw [show j / 3 * 3 + 2 = j by omega, h] at h2
    exact .inr (.inr ⟨hr, Option.some.inj h2⟩)
theorem sl_cells {w : World} {a : Addr} {l : List Cel} (h : l ≠ [] → a.spot = none ∧ a.block < w.heap.size ∧ RowAt w a.block a.off l) (j : Nat) (u : Value) (hu : (flatC l)[j]? = some u) : w.cell? (a.add j) = some u := by
  obtain ⟨c, hc, hr⟩ := flatC_at3 hu
  obtain ⟨b, o, s⟩ := a
  obtain ⟨h1, h2, h3⟩ := h (fun e => by subst e; simp at hc)
  obtain rfl : s = none := h1
  obtain ⟨r0, r1, r2⟩ := h3 _ c hc
  have e : (⟨b, o, none⟩ : Addr).add j = ⟨b, o + j, none⟩ := by
    unfold Addr.add
    split
    · rename_i h; subst h; rfl
    · rfl
  rw [e]
  rcases hr with ⟨hr, rfl⟩ | ⟨hr, rfl⟩ | ⟨hr, rfl⟩
  · rw [show o + j = o + j / 3 * 3 by omega]; exact r0
  · rw [show o + j = o + j / 3 * 3 + 1 by omega]; exact r1
  · rw [show o + j = o + j / 3 * 3 + 2 by omega]; exact r2
theorem Own.mono {w : World} {B B' : Nat} {v : Value} {l : List Cel} (h : Own w B v l) (hB : B' ≤ B) : Own w B' v l := by
  refine ⟨h.1, ?_⟩
  rcases h.2 with h1 | ⟨g, cap, cur, rfl, hg, r⟩
  · exact .inl h1
  · exact .inr ⟨g, cap, cur, rfl, Nat.le_trans hB hg, r⟩
theorem own_of {w : World} {B n : Nat} {v : Value} {xs : List Value} {l : List Cel} (h : w.ownsRow B 24 3 v n xs) (hn : n = l.length) (hx : xs = flatC l) : Own w B v l := by
  subst hn hx
  exact h
/-- append, of a list of cells, to a row of the call's own. -/
theorem wpList_append_sl {w : World} {ops : Array Oper} {rest : List Oper} {o : Oper} {a : Act} {Q : Exit → Act → World → Prop} (hgd : o.guard = none) (s x : Operand)
    (ho : o.op = .call { callee := .builtin .append, args := #[s, x], argTypes := #[22, 22] }) (B : Nat) (hB : B ≤ w.heap.size) (v : Value) (l : List Cel) (hs : a.eval s = v) (hown : Own w B v l)
    (vx : Value) (m : List Cel) (hx : a.eval x = vx) (hm : Sl w vx m) (hn : l.length + m.length ≤ 1000000)
    (h : ∀ v' w', Own w' B v' (l ++ m) → Below B w w' → wpList Tryz.prog ops Q rest (a.put o.dst v') w') : wpList Tryz.prog ops Q (o :: rest) a w := by
  obtain ⟨j0, hj, hy0, hy1, hy2⟩ := info_parts (P := Tryz.prog) (e := 24) (z := .agg #[.int .i64 0, .int .i64 0, .int .i64 0]) (size := 3) (bytes := 24) (by kernel_rfl)
  rcases hm with ⟨rfl, rfl⟩ | ⟨ad, cap, rfl, hm⟩
  · refine wpList_append_own_none hgd s x _ ho B _ j0 3 Tryz.underlying22 hj v l.length (flatC l) hs hown hx (h v w ?_ (Below.refl _ _))
    rw [List.append_nil]
    exact hown
  · refine wpList_append_own w hgd s x _ ho B 24 j0 _ 3 24 Tryz.underlying22 hj hy0 hy1 hy2 rfl (by decide) v l.length (flatC l) hs hown ad m.length cap (flatC m) hx (flatC_len3 m) (sl_cells hm) flatC_one3 (by unfold maxLen; omega) (by omega) hB fun v' w' h1 h2 _ => h v' w' (own_of h1 List.length_append.symm (flatC_append l m).symm) ?_
    exact (Below.refl B w).grown h2 hB fun k hk => (hown.lt k hk).1
theorem row_one (w : World) (x y z : Int) : [(x, y, z)] ≠ [] → (⟨w.heap.size, 0, none⟩ : Addr).spot = none ∧ (⟨w.heap.size, 0, none⟩ : Addr).block < (w.alloc (.cells #[.int .i64 x, .int .i64 y, .int .i64 z] 24)).heap.size ∧ RowAt (w.alloc (.cells #[.int .i64 x, .int .i64 y, .int .i64 z] 24)) w.heap.size 0 [(x, y, z)] := fun _ => by
  refine ⟨rfl, by simp, fun i c h => ?_⟩
  match i, h with
  | 0, h =>
    simp at h
    subst h
    refine ⟨?_, ?_, ?_⟩ <;> go_simp
  | i + 1, h => simp at h
end Go.Proofs
end

section
namespace Go.Proofs
open Go.Shelf Go.RowKit Go.Lib Go.Sort
set_option maxHeartbeats 8000000
set_option maxRecDepth 1000000
def cellW (c : Cel) : Value := .agg #[.int .i64 c.1, .int .i64 c.2.1, .int .i64 c.2.2]
theorem Filled.put3 {w : World} {B n : Nat} {T : TypeId} {l : List Cel} {k : Nat} {x y z : Int} (h : Filled w B n T (l.take k)) (hk : k < n) (hc : l[k]? = some (x, y, z)) :
    Filled (((w.setCell ⟨B, k * 3, none⟩ (.int .i64 x)).setCell ⟨B, k * 3 + 1, none⟩ (.int .i64 y)).setCell ⟨B, k * 3 + 2, none⟩ (.int .i64 z)) B n T (l.take (k + 1)) := by
  have hB : B < w.heap.size := by obtain ⟨arr, ha, _⟩ := h; exact (Array.getElem?_eq_some_iff.1 ha).1
  obtain ⟨arr, ha, r⟩ := h.put hk hc (.cells #[] T)
  rw [Below.heap_alloc _ _ _ (by simpa [World.setCell] using hB)] at ha
  exact ⟨arr, ha, r⟩
theorem below3' {w wr : World} (h : Below w.heap.size w wr) (k : Nat) (a b c : Value) :
    Below w.heap.size w (((wr.setCell ⟨w.heap.size, k * 3, none⟩ a).setCell ⟨w.heap.size, k * 3 + 1, none⟩ b).setCell ⟨w.heap.size, k * 3 + 2, none⟩ c) :=
  ((h.setCell (p := ⟨w.heap.size, k * 3, none⟩) (Nat.le_refl _) a).setCell (p := ⟨w.heap.size, k * 3 + 1, none⟩) (Nat.le_refl _) b).setCell (p := ⟨w.heap.size, k * 3 + 2, none⟩) (Nat.le_refl _) c

theorem moved_turn (l : List Cel) (blk off cap : Nat) (w : World) (hl : RowAt w blk off l) (hb : blk < w.heap.size) (hn : l.length ≤ 4096) (p q : Nat) (mv : Cel → Cel)
    (hmv : ∀ c ∈ l, ∀ W, Below w.heap.size w W → Calls Tryz.prog 96 #[.agg #[.int .i64 c.1, .int .i64 c.2.1, .int .i64 c.2.2], .pointer (some ⟨p, 0, none⟩), .pointer (some ⟨q, 0, none⟩)] W fun e W' => e = .returned (.agg #[.int .i64 (mv c).1, .int .i64 (mv c).2.1, .int .i64 (mv c).2.2]) ∧ Below W.heap.size W W')
    (hfit : ∀ c ∈ l.map mv, vecI c 1000 = 0) (hnd : (l.map mv).Nodup) :
    Calls Tryz.prog 93 #[.slice (some ⟨blk, off, none⟩) l.length cap, .func (.func 96) #[] #[.pointer (some ⟨p, 0, none⟩), .pointer (some ⟨q, 0, none⟩)]] w fun e w' => ∃ B, e = .returned (.tuple #[.slice (some ⟨B, 0, none⟩) l.length l.length, .int .i64 0]) ∧ w.heap.size ≤ B ∧ Filled w' B l.length 24 (sortC (l.map mv)) ∧ Below w.heap.size w w' := by
  obtain ⟨j0, hj, hy0, hy1, hy2⟩ := info_parts (P := Tryz.prog) (e := 24) (z := .agg #[.int .i64 0, .int .i64 0, .int .i64 0]) (size := 3) (bytes := 24) (by kernel_rfl)
  have hml : (l.map mv).length = l.length := List.length_map _
  obtain ⟨m, hmm⟩ : ∃ m, m = l.map mv := ⟨_, rfl⟩
  have hat : ∀ (k : Nat) (c : Cel), l[k]? = some c → m[k]? = some (mv c) := fun k c h => by rw [hmm, List.getElem?_map, h]; rfl
  rw [← hmm] at hfit hnd hml ⊢
  clear hmm
  go_enter Tryz.func93, Tryz.ntmps93
  go_wp2_with (at_make; refine wpList_make_full _ rfl _ _ 22 rfl w.heap.size 24 j0 _ 3 Tryz.underlying22 hj hy0 hy1 .i64 .i64 _ _ l.length rfl rfl rfl rfl ?c1 ?c2 ?c3 ?_)
  case c1 => rw [hy2]; omega
  case c2 => unfold maxLen; omega
  case c3 => exact Nat.le_refl _
  intro w1 hown hgrow
  have hF1 := made_filled rfl hown m
  have hB1 : Below w.heap.size w w1 := (Below.refl _ _).grown hgrow (Nat.le_refl _) (fun k hk => by cases hk)
  clear hown hgrow
  go_wp2
  go_loopw [15] (fun i wr => ∃ k : Nat, k ≤ l.length ∧ i = .int .i64 k ∧ Filled wr w.heap.size l.length 24 (m.take k) ∧ w.heap.size < wr.heap.size ∧ Below w.heap.size w wr) (fun i _ => l.length - (intOf i).toNat)
  case atStart => exact ⟨0, Nat.zero_le _, rfl, hF1.1, hF1.2, hB1⟩
  case round =>
    obtain ⟨k, hk, rfl, hF, hlt, hBel⟩ := hrel
    rcases Nat.lt_or_eq_of_le hk with hkn | rfl
    · obtain ⟨x, y, z, hc⟩ : ∃ x y z, l[k]? = some (x, y, z) := ⟨_, _, _, List.getElem?_eq_getElem hkn⟩
      have hcm := hmv (x, y, z) (List.mem_of_getElem? hc)
      have hmk := hat k _ hc
      obtain ⟨x', y', z', hxyz⟩ : ∃ x' y' z', mv (x, y, z) = (x', y', z') := ⟨_, _, _, rfl⟩
      rw [hxyz] at hcm hmk
      dsimp only at hcm
      obtain ⟨r0, r1, r2⟩ := hl k _ hc
      rw [← hBel.cell (p := ⟨blk, off + k * 3, none⟩) hb] at r0
      rw [← hBel.cell (p := ⟨blk, off + k * 3 + 1, none⟩) hb] at r1
      rw [← hBel.cell (p := ⟨blk, off + k * 3 + 2, none⟩) hb] at r2
      have hBa := hBel.alloc (Nat.le_of_lt hlt) (.cells #[.int .i64 x, .int .i64 y, .int .i64 z] 24)
      have hcall := hcm _ hBa
      have hi0 : (0 : Int) ≤ k := by omega
      have hi1 : (k : Int) < l.length := by omega
      have hFa := hF.below ((Below.refl wr.heap.size wr).alloc (Nat.le_refl _) (.cells #[.int .i64 x, .int .i64 y, .int .i64 z] 24)) hlt
      have hlt2 : w.heap.size < (wr.alloc (.cells #[.int .i64 x, .int .i64 y, .int .i64 z] 24)).heap.size := by simp; omega
      clear hB1 hF1 hl hfit hnd hmv hat hc hcm hxyz hml hF hBel
      go_wp2_with (go_at_call 96; refine hcall.mono ?_; rintro e w2 ⟨rfl, hB2⟩; have hF2 := hFa.below hB2 hlt2; have fz := hF2.fz; obtain ⟨v0, o0⟩ := hF2.old (j := k * 3) (by omega); obtain ⟨v1, o1⟩ := hF2.old (j := k * 3 + 1) (by omega); obtain ⟨v2, o2⟩ := hF2.old (j := k * 3 + 2) (by omega))
      have hsz := hB2.size
      refine ⟨⟨k + 1, hkn, rfl, hF2.put3 hkn hmk, by simp [World.setCell]; omega, below3' (hBa.trans (hB2.mono (Nat.le_of_lt hlt2))) k _ _ _⟩, ?_⟩
      simp [intOf]; omega
    · clear hl hF1 hB1 hmv hat
      rw [List.take_of_length_le (by rw [hml]; exact Nat.le_refl _)] at hF
      have hrow := hF.row
      have hce := checkEach_ok m w.heap.size 0 m.length wr hrow hlt (by rw [hml]; exact hn) hfit
      have hso := fun W (hr : RowAt W w.heap.size 0 m) (hb : w.heap.size < W.heap.size) => sorted_ok m w.heap.size 0 m.length W hr hb (by rw [hml]; exact hn) hnd
      rw [hml] at hce hso
      have hstep : ∀ W, Below wr.heap.size wr W → RowAt W w.heap.size 0 m ∧ w.heap.size < W.heap.size := fun W hW => ⟨(hF.below hW hlt).row, Nat.lt_of_lt_of_le hlt hW.size⟩
      clear hfit hnd hml hrow hF
      go_wp2_with (first
        | (go_at_call 105; refine hce.mono ?_; rintro e w3 ⟨rfl, hB3⟩)
        | (go_at_call 113; refine (hso w3 (hstep w3 hB3).1 (hstep w3 hB3).2).mono ?_; rintro e w4 ⟨B, rfl, hB, hFB, hB4⟩))
      go_ret2
      have h3 := hB3.size
      exact ⟨B, rfl, by omega, hFB, (hBel.trans (hB3.mono (Nat.le_of_lt hlt))).trans (hB4.mono (by omega))⟩

theorem moved_mirror (l : List Cel) (blk off cap : Nat) (w : World) (hl : RowAt w blk off l) (hb : blk < w.heap.size) (hn : l.length ≤ 4096) (p q : Nat) (mv : Cel → Cel)
    (hmv : ∀ c ∈ l, ∀ W, Below w.heap.size w W → Calls Tryz.prog 94 #[.agg #[.int .i64 c.1, .int .i64 c.2.1, .int .i64 c.2.2], .pointer (some ⟨p, 0, none⟩), .pointer (some ⟨q, 0, none⟩)] W fun e W' => e = .returned (.agg #[.int .i64 (mv c).1, .int .i64 (mv c).2.1, .int .i64 (mv c).2.2]) ∧ Below W.heap.size W W')
    (hfit : ∀ c ∈ l.map mv, vecI c 1000 = 0) (hnd : (l.map mv).Nodup) :
    Calls Tryz.prog 93 #[.slice (some ⟨blk, off, none⟩) l.length cap, .func (.func 94) #[] #[.pointer (some ⟨p, 0, none⟩), .pointer (some ⟨q, 0, none⟩)]] w fun e w' => ∃ B, e = .returned (.tuple #[.slice (some ⟨B, 0, none⟩) l.length l.length, .int .i64 0]) ∧ w.heap.size ≤ B ∧ Filled w' B l.length 24 (sortC (l.map mv)) ∧ Below w.heap.size w w' := by
  obtain ⟨j0, hj, hy0, hy1, hy2⟩ := info_parts (P := Tryz.prog) (e := 24) (z := .agg #[.int .i64 0, .int .i64 0, .int .i64 0]) (size := 3) (bytes := 24) (by kernel_rfl)
  have hml : (l.map mv).length = l.length := List.length_map _
  obtain ⟨m, hmm⟩ : ∃ m, m = l.map mv := ⟨_, rfl⟩
  have hat : ∀ (k : Nat) (c : Cel), l[k]? = some c → m[k]? = some (mv c) := fun k c h => by rw [hmm, List.getElem?_map, h]; rfl
  rw [← hmm] at hfit hnd hml ⊢
  clear hmm
  go_enter Tryz.func93, Tryz.ntmps93
  go_wp2_with (at_make; refine wpList_make_full _ rfl _ _ 22 rfl w.heap.size 24 j0 _ 3 Tryz.underlying22 hj hy0 hy1 .i64 .i64 _ _ l.length rfl rfl rfl rfl ?c1 ?c2 ?c3 ?_)
  case c1 => rw [hy2]; omega
  case c2 => unfold maxLen; omega
  case c3 => exact Nat.le_refl _
  intro w1 hown hgrow
  have hF1 := made_filled rfl hown m
  have hB1 : Below w.heap.size w w1 := (Below.refl _ _).grown hgrow (Nat.le_refl _) (fun k hk => by cases hk)
  clear hown hgrow
  go_wp2
  go_loopw [15] (fun i wr => ∃ k : Nat, k ≤ l.length ∧ i = .int .i64 k ∧ Filled wr w.heap.size l.length 24 (m.take k) ∧ w.heap.size < wr.heap.size ∧ Below w.heap.size w wr) (fun i _ => l.length - (intOf i).toNat)
  case atStart => exact ⟨0, Nat.zero_le _, rfl, hF1.1, hF1.2, hB1⟩
  case round =>
    obtain ⟨k, hk, rfl, hF, hlt, hBel⟩ := hrel
    rcases Nat.lt_or_eq_of_le hk with hkn | rfl
    · obtain ⟨x, y, z, hc⟩ : ∃ x y z, l[k]? = some (x, y, z) := ⟨_, _, _, List.getElem?_eq_getElem hkn⟩
      have hcm := hmv (x, y, z) (List.mem_of_getElem? hc)
      have hmk := hat k _ hc
      obtain ⟨x', y', z', hxyz⟩ : ∃ x' y' z', mv (x, y, z) = (x', y', z') := ⟨_, _, _, rfl⟩
      rw [hxyz] at hcm hmk
      dsimp only at hcm
      obtain ⟨r0, r1, r2⟩ := hl k _ hc
      rw [← hBel.cell (p := ⟨blk, off + k * 3, none⟩) hb] at r0
      rw [← hBel.cell (p := ⟨blk, off + k * 3 + 1, none⟩) hb] at r1
      rw [← hBel.cell (p := ⟨blk, off + k * 3 + 2, none⟩) hb] at r2
      have hBa := hBel.alloc (Nat.le_of_lt hlt) (.cells #[.int .i64 x, .int .i64 y, .int .i64 z] 24)
      have hcall := hcm _ hBa
      have hi0 : (0 : Int) ≤ k := by omega
      have hi1 : (k : Int) < l.length := by omega
      have hFa := hF.below ((Below.refl wr.heap.size wr).alloc (Nat.le_refl _) (.cells #[.int .i64 x, .int .i64 y, .int .i64 z] 24)) hlt
      have hlt2 : w.heap.size < (wr.alloc (.cells #[.int .i64 x, .int .i64 y, .int .i64 z] 24)).heap.size := by simp; omega
      clear hB1 hF1 hl hfit hnd hmv hat hc hcm hxyz hml hF hBel
      go_wp2_with (go_at_call 94; refine hcall.mono ?_; rintro e w2 ⟨rfl, hB2⟩; have hF2 := hFa.below hB2 hlt2; have fz := hF2.fz; obtain ⟨v0, o0⟩ := hF2.old (j := k * 3) (by omega); obtain ⟨v1, o1⟩ := hF2.old (j := k * 3 + 1) (by omega); obtain ⟨v2, o2⟩ := hF2.old (j := k * 3 + 2) (by omega))
      have hsz := hB2.size
      refine ⟨⟨k + 1, hkn, rfl, hF2.put3 hkn hmk, by simp [World.setCell]; omega, below3' (hBa.trans (hB2.mono (Nat.le_of_lt hlt2))) k _ _ _⟩, ?_⟩
      simp [intOf]; omega
    · clear hl hF1 hB1 hmv hat
      rw [List.take_of_length_le (by rw [hml]; exact Nat.le_refl _)] at hF
      have hrow := hF.row
      have hce := checkEach_ok m w.heap.size 0 m.length wr hrow hlt (by rw [hml]; exact hn) hfit
      have hso := fun W (hr : RowAt W w.heap.size 0 m) (hb : w.heap.size < W.heap.size) => sorted_ok m w.heap.size 0 m.length W hr hb (by rw [hml]; exact hn) hnd
      rw [hml] at hce hso
      have hstep : ∀ W, Below wr.heap.size wr W → RowAt W w.heap.size 0 m ∧ w.heap.size < W.heap.size := fun W hW => ⟨(hF.below hW hlt).row, Nat.lt_of_lt_of_le hlt hW.size⟩
      clear hfit hnd hml hrow hF
      go_wp2_with (first
        | (go_at_call 105; refine hce.mono ?_; rintro e w3 ⟨rfl, hB3⟩)
        | (go_at_call 113; refine (hso w3 (hstep w3 hB3).1 (hstep w3 hB3).2).mono ?_; rintro e w4 ⟨B, rfl, hB, hFB, hB4⟩))
      go_ret2
      have h3 := hB3.size
      exact ⟨B, rfl, by omega, hFB, (hBel.trans (hB3.mono (Nat.le_of_lt hlt))).trans (hB4.mono (by omega))⟩

end Go.Proofs
end
