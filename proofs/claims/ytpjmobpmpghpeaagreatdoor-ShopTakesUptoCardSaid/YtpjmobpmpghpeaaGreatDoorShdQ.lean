import Derived.Test.YtpjmobpmpghpeaaGreatDoorShdM
/- Shades: Mixed of the program. -/
namespace Go.Proofs
open Go.RowKit Go.MapKept
set_option maxHeartbeats 16000000
set_option maxRecDepth 1000000
/-- The colour of a mix, eight times as large. -/
def colM (l : List TabT) (q : Cel) : Cel := mixC (8 - q.2.2) ((l[q.1.toNat]?.map (·.2)).getD (0, 0, 0)) q.2.2 ((l[q.2.1.toNat]?.map (·.2)).getD (0, 0, 0))
def MixOk (n : Nat) (q : Cel) : Prop := ∃ i k : Nat, q.1 = i ∧ q.2.1 = k ∧ i < k ∧ k < n ∧ 1 ≤ q.2.2 ∧ q.2.2 ≤ 7
theorem mixL_ok {n : Nat} {q : Cel} : q ∈ mixL n ↔ MixOk n q := by
  unfold mixL MixOk
  simp only [List.mem_flatMap, List.mem_range]
  constructor
  · rintro ⟨i, hi, k, hk, h⟩
    split at h
    · obtain ⟨e, he, rfl⟩ := List.mem_map.1 h
      rw [List.mem_range] at he
      exact ⟨i, k, rfl, rfl, by assumption, hk, by simp only; omega, by simp only; omega⟩
    · cases h
  · rintro ⟨i, k, h1, h2, hik, hk, h3, h4⟩
    refine ⟨i, by omega, k, hk, ?_⟩
    rw [if_pos hik]
    refine List.mem_map.2 ⟨(q.2.2 - 1).toNat, List.mem_range.2 (by omega), ?_⟩
    obtain ⟨a, b, c⟩ := q
    simp only at h1 h2 h3 h4 ⊢
    rw [h1, h2]
    congr 2
    omega
theorem colM_ok {l : List TabT} {q : Cel} (hc : ∀ (i : Nat) (t : TabT), l[i]? = some t → ColOk t.2 0 255) (h : MixOk l.length q) : ColOk (colM l q) (-3000) 3000 := by
  obtain ⟨i, k, h1, h2, hik, hk, h3, h4⟩ := h
  obtain ⟨t1, ht1⟩ : ∃ t, l[i]? = some t := ⟨_, List.getElem?_eq_getElem (by omega)⟩
  obtain ⟨t2, ht2⟩ : ∃ t, l[k]? = some t := ⟨_, List.getElem?_eq_getElem hk⟩
  unfold colM
  rw [h1, h2]
  simp only [Int.toNat_natCast, ht1, ht2, Option.map_some, Option.getD_some]
  have a := hc i t1 ht1
  have b := hc k t2 ht2
  unfold ColOk at a b
  have key : ∀ x y : Int, 0 ≤ x ∧ x ≤ 255 → 0 ≤ y ∧ y ≤ 255 → -3000 ≤ (8 - q.2.2) * x + q.2.2 * y ∧ (8 - q.2.2) * x + q.2.2 * y ≤ 3000 := fun x y hx hy => by
    have a1 := Int.mul_le_mul_of_nonneg_left hx.2 (show 0 ≤ 8 - q.2.2 by omega)
    have a2 := Int.mul_le_mul_of_nonneg_left hy.2 (show 0 ≤ q.2.2 by omega)
    have a3 := Int.mul_nonneg (show 0 ≤ 8 - q.2.2 by omega) hx.1
    have a4 := Int.mul_nonneg (show 0 ≤ q.2.2 by omega) hy.1
    omega
  unfold ColOk mixC
  exact ⟨key _ _ a.1 b.1, key _ _ a.2.1 b.2.1, key _ _ a.2.2 b.2.2⟩
theorem shMixes_ok (n : Nat) (hn : 2 ≤ n ∧ n ≤ 6) (w : World) :
    Calls Tryz.prog 61 #[.int .i64 n] w fun e w' => ∃ B o cap, e = .returned (.slice (some ⟨B, o, none⟩) (mixL n).length cap) ∧ B < w'.heap.size ∧ RowAt w' B o (mixL n) ∧ Below w.heap.size w w' := by
  have key : ∀ (m : List Cel) (v : Int), resRow (AM.callF Tryz.prog AM.noSum 100000 61 [.int .i64 v] AM.h0) = some (m.length, flat3 m) → 0 < m.length → Calls Tryz.prog 61 #[.int .i64 v] w fun e w' => ∃ B o cap, e = .returned (.slice (some ⟨B, o, none⟩) m.length cap) ∧ B < w'.heap.size ∧ RowAt w' B o m ∧ Below w.heap.size w w' := fun m v h h0 => by
    have hfl : (flat3 m).all AM.flat = true := by
      rw [List.all_eq_true]
      intro u hu
      obtain ⟨c, _, hc⟩ := List.mem_flatMap.1 hu
      simp only [List.mem_cons, List.not_mem_nil, or_false] at hc
      rcases hc with rfl | rfl | rfl <;> rfl
    refine (row_result h rfl hfl h0 w).mono ?_
    rintro e w' ⟨B, o, cap, rfl, hB, hc, hb⟩
    refine ⟨B, o, cap, rfl, hB, fun i c hi => ?_, hb⟩
    have h3 : ∀ (l : List Cel) (i : Nat), l[i]? = some c → (flat3 l)[i * 3]? = some (.int .i64 c.1) ∧ (flat3 l)[i * 3 + 1]? = some (.int .i64 c.2.1) ∧ (flat3 l)[i * 3 + 2]? = some (.int .i64 c.2.2) := fun l => by
      induction l with
      | nil => intro i h; simp at h
      | cons x l ih =>
        intro i h
        cases i with
        | zero =>
          obtain rfl : x = c := by simpa using h
          simp [flat3]
        | succ i =>
          have := ih i (by simpa using h)
          have e : flat3 (x :: l) = .int .i64 x.1 :: .int .i64 x.2.1 :: .int .i64 x.2.2 :: flat3 l := by simp [flat3]
          rw [e, show (i + 1) * 3 = i * 3 + 1 + 1 + 1 by omega, show i * 3 + 1 + 1 + 1 + 1 = (i * 3 + 1) + 1 + 1 + 1 by omega, show i * 3 + 1 + 1 + 1 + 2 = (i * 3 + 2) + 1 + 1 + 1 by omega]
          simpa only [List.getElem?_cons_succ] using this
    obtain ⟨a0, a1, a2⟩ := h3 m i hi
    have b0 := hc _ _ a0
    have b1 := hc _ _ a1
    have b2 := hc _ _ a2
    rw [Nat.add_comm] at b0
    rw [show i * 3 + 1 + o = o + i * 3 + 1 by omega] at b1
    rw [show i * 3 + 2 + o = o + i * 3 + 2 by omega] at b2
    exact ⟨b0, b1, b2⟩
  obtain rfl | rfl | rfl | rfl | rfl : n = 2 ∨ n = 3 ∨ n = 4 ∨ n = 5 ∨ n = 6 := by omega
  · exact key (mixL 2) 2 mix2 (by decide)
  · exact key (mixL 3) 3 mix3 (by decide)
  · exact key (mixL 4) 4 mix4 (by decide)
  · exact key (mixL 5) 5 mix5 (by decide)
  · exact key (mixL 6) 6 mix6 (by decide)
/-- The colours of some mixes. -/
theorem shListM_ok (l : List TabT) (A : Option Addr) (cap gb b o mc : Nat) (x y z : Int) (M : List Cel) (w : World) (hg : w.heap[gb]? = some (.cells #[.int .i64 x, .int .i64 y, .int .i64 z, .slice A l.length cap] 50 (0, 0))) (hl : SlT w (.slice A l.length cap) l)
    (hM : RowAt w b o M) (hb : b < w.heap.size) (hok : ∀ q ∈ M, MixOk l.length q) (hc : ∀ (i : Nat) (t : TabT), l[i]? = some t → ColOk t.2 0 255) (hn : M.length ≤ 100000) :
    Calls Tryz.prog 62 #[.slice (some ⟨b, o, none⟩) M.length mc, .func (.func 63) #[] #[.pointer (some ⟨gb, 0, none⟩)]] w fun e w' => ∃ B, e = .returned (.slice (some ⟨B, 0, none⟩) M.length M.length) ∧ B < w'.heap.size ∧ RowAt w' B 0 (M.map (colM l)) ∧ Below w.heap.size w w' := by
  obtain ⟨j0, hj, hy0, hy1, hy2⟩ := info_parts (P := Tryz.prog) (e := 47) (z := .agg #[.int .i64 0, .int .i64 0, .int .i64 0]) (size := 3) (bytes := 24) (by kernel_rfl)
  have hgl : gb < w.heap.size := (Array.getElem?_eq_some_iff.1 hg).1
  have hcall : ∀ q ∈ M, ∀ W, Below w.heap.size w W → Calls Tryz.prog 63 #[colV q, .pointer (some ⟨gb, 0, none⟩)] W fun e' w' => e' = .returned (colV (colM l q)) ∧ Below W.heap.size W w' := fun q hq W hW => by
    obtain ⟨i, k, h1, h2, hik, hk, h3, h4⟩ := hok q hq
    obtain ⟨⟨s1, c1⟩, ht1⟩ : ∃ t, l[i]? = some t := ⟨_, List.getElem?_eq_getElem (by omega)⟩
    obtain ⟨⟨s2, c2⟩, ht2⟩ : ∃ t, l[k]? = some t := ⟨_, List.getElem?_eq_getElem hk⟩
    have k1 := hc i _ ht1
    have k2 := hc k _ ht2
    dsimp only at k1 k2
    have := shMixCol_ok l A cap gb x y z i k q.2.2 s1 s2 c1 c2 W ((hW.block _ hgl).trans hg) (hl.below hW) ht1 ht2 ⟨h3, h4⟩ (by unfold ColOk at *; omega) (by unfold ColOk at *; omega)
    have e1 : colV q = .agg #[.int .i64 i, .int .i64 k, .int .i64 q.2.2] := by unfold colV; rw [h1, h2]
    have e2 : colM l q = mixC (8 - q.2.2) c1 q.2.2 c2 := by unfold colM; rw [h1, h2]; simp [ht1, ht2]
    rw [e1, e2]
    exact this
  obtain ⟨m, hm⟩ : ∃ m, m = M.map (colM l) := ⟨_, rfl⟩
  have hml : m.length = M.length := by rw [hm, List.length_map]
  have hat : ∀ (k : Nat) (c : Cel), M[k]? = some c → m[k]? = some (colM l c) := fun k c h => by rw [hm, List.getElem?_map, h]; rfl
  rw [← hm]
  clear hm hok hc hl hg
  go_enter Tryz.func62, Tryz.ntmps62
  go_wp2_with (at_make; refine wpList_make_full _ rfl _ _ 122 rfl w.heap.size 47 j0 _ 3 Tryz.underlying122 hj hy0 hy1 .i64 .i64 _ _ M.length rfl rfl rfl rfl ?c1 ?c2 ?c3 ?_)
  case c1 => rw [hy2]; omega
  case c2 => unfold maxLen; omega
  case c3 => exact Nat.le_refl _
  intro w1 hown hgrow
  have hX2 : Below w.heap.size w w1 := (Below.refl _ _).grown hgrow (Nat.le_refl _) (fun k hk => by cases hk)
  have hK := RowK.made hown
  have hlen := hown.1
  clear hgrow hown
  generalize (madeCells #[Value.int .i64 0, Value.int .i64 0, Value.int .i64 0] (M.length * 3)).toList = Z at hK hlen
  go_wp2
  go_loopw [13] (fun i wr => ∃ (k : Nat) (cs : List Value), k ≤ M.length ∧ i = .int .i64 k ∧ RowK wr 47 w.heap.size cs ∧ cs.length = M.length * 3 ∧ ColsAt cs m k ∧ Below w.heap.size w wr) (fun i _ => M.length - (intOf i).toNat)
  case atStart => exact ⟨0, Z, Nat.zero_le _, rfl, hK, hlen, fun j c hj _ => absurd hj (Nat.not_lt_zero j), hX2⟩
  case round =>
    clear hK hlen hX2 Z
    obtain ⟨k, cs, hk, rfl, hK, hlen, hall, hBw⟩ := hrel
    rcases Nat.lt_or_eq_of_le hk with hkn | rfl
    · obtain ⟨⟨i, j, e⟩, hc⟩ : ∃ c, M[k]? = some c := ⟨_, List.getElem?_eq_getElem hkn⟩
      obtain ⟨r0, r1, r2⟩ := hM k _ hc
      dsimp only at r0 r1 r2
      rw [← hBw.cell (p := ⟨b, _, none⟩) hb] at r0 r1 r2
      have hi0 : (0 : Int) ≤ k := by omega
      have hi1 : (k : Int) < M.length := by omega
      have hwk := wrap64_small (n := (k : Int) + 1) (by omega)
      have hcal := hcall (i, j, e) (List.mem_of_getElem? hc)
      have hres0 := hat k (i, j, e) hc
      generalize colM l (i, j, e) = C at hcal hres0
      obtain ⟨p, q, r⟩ := C
      obtain ⟨v0, hv0⟩ : ∃ v0, cs[k * 3]? = some v0 := ⟨_, List.getElem?_eq_getElem (by omega)⟩
      obtain ⟨v1, hv1⟩ : ∃ v1, cs[k * 3 + 1]? = some v1 := ⟨_, List.getElem?_eq_getElem (by omega)⟩
      obtain ⟨v2, hv2⟩ : ∃ v2, cs[k * 3 + 2]? = some v2 := ⟨_, List.getElem?_eq_getElem (by omega)⟩
      unfold colV at hcal
      dsimp only at hcal
      obtain ⟨Wt, hW⟩ : ∃ Wt, Wt = (wr.alloc (.cells #[.int .i64 i, .int .i64 j, .int .i64 e] 60)) := ⟨_, rfl⟩
      have hQt : Below wr.heap.size wr Wt := by subst hW; exact (Below.refl _ _).alloc (Nat.le_refl _) _
      have hKt := hK.below hQt
      have hBt := hBw.trans (hQt.mono hBw.size)
      have hcal := hcal Wt hBt
      have hres := cols_set hall hres0 (by omega)
      clear hcall hall hat hc hM
      go_wp2_with (go_at_call 63; rw [← hW]; refine hcal.mono ?_; rintro e w2 ⟨rfl, hQ2⟩; have hK2 := hKt.below hQ2; have o0 := hK2.cell hv0; have o1 := hK2.cell hv1; have o2 := hK2.cell hv2; have fz := hK2.fz)
      have hB2 := hBt.trans (hQ2.mono hBt.size)
      go_roundw
      case rel => exact ⟨k + 1, _, hkn, by simp, ((hK2.set (k * 3) _).set (k * 3 + 1) _).set (k * 3 + 2) _, by simp [hlen], hres, ((hB2.setCell (p := ⟨w.heap.size, k * 3, none⟩) (Nat.le_refl _) _).setCell (p := ⟨w.heap.size, k * 3 + 1, none⟩) (Nat.le_refl _) _).setCell (p := ⟨w.heap.size, k * 3 + 2, none⟩) (Nat.le_refl _) _⟩
      case measure => simp [intOf]; omega
    · rw [← hml] at hall
      have hrw := cols_row hK hall
      clear hcall hat hall hM
      have HR := Lib.hid hrw
      clear hrw
      go_wp2
      go_ret
      exact ⟨w.heap.size, rfl, hK.lt, HR.out, hBw⟩
end Go.Proofs
