/- Shades: nearest; the colours of tabs; Nearest. -/
import Derived.Test.YtpjmobpmpghpeaaGreatDoorShdJ
namespace Go.Proofs
open Go.RowKit Go.MapKept
set_option maxHeartbeats 16000000
set_option maxRecDepth 1000000
def Least1 (l : List Cel) (ws t : Cel) (j : Nat) : Prop := ∃ c, l[j]? = some c ∧ (∀ c' ∈ l, distW ws c t ≤ distW ws c' t) ∧ ∀ i c', i < j → l[i]? = some c' → distW ws c' t ≠ distW ws c t
theorem shNear_ok (l : List Cel) (ws t : Cel) (b o cap : Nat) (w : World) (hl : RowAt w b o l) (hb : b < w.heap.size) (h0 : 0 < l.length) (hn : l.length ≤ 100000) (hw : ColOk ws (-100) 100) (ht : ColOk t (-3000) 3000) (hc : ∀ c ∈ l, ColOk c (-3000) 3000) :
    Calls Tryz.prog 59 #[.slice (some ⟨b, o, none⟩) l.length cap, .func (.func 56) #[tgtV ws t] #[]] w fun e w' => (∃ j : Nat, e = .returned (.int .i64 j) ∧ Least1 l ws t j) ∧ Below w.heap.size w w' := by
  have h1 := shListI_ok l ws t b o cap w hl hb hn hw ht hc
  obtain ⟨D, hD⟩ : ∃ D, D = l.map fun c => distW ws c t := ⟨_, rfl⟩
  have hDl : D.length = l.length := by rw [hD, List.length_map]
  have hfin : ∀ (m : Int) (j : Nat), (∀ x ∈ D, m ≤ x) → D[j]? = some m → (∀ i x, i < j → D[i]? = some x → x ≠ m) → Least1 l ws t j := fun m j hm hj hf => by
    subst hD
    rw [List.getElem?_map] at hj
    obtain ⟨c, hcj, rfl⟩ := Option.map_eq_some_iff.1 hj
    refine ⟨c, hcj, fun c' hc' => hm _ (List.mem_map.2 ⟨c', hc', rfl⟩), fun i c' hi hc' => ?_⟩
    exact hf i _ hi (by rw [List.getElem?_map, hc']; rfl)
  rw [← hD] at h1
  clear hD hl hc hw ht
  have hmin := fun B W (h : IntsAt W B 0 D) => shMin_ok D B D.length W h (by omega) (by omega)
  have hidx := fun m B W (h : IntsAt W B 0 D) (hm : m ∈ D) => shIndex_ok D m B D.length W h hm (by omega)
  rw [← hDl] at h1 h0 hn ⊢
  clear hDl
  go_enter Tryz.func59, Tryz.ntmps59
  go_wp2_with (first
    | (go_at_call 108; refine h1.mono ?_; rintro e w1 ⟨B, rfl, hB1, hB2, hI, hQ⟩)
    | (go_at_call 94; refine (hmin _ _ hI).mono ?_; rintro e w2 ⟨⟨m, rfl, hm1, hm2⟩, rfl⟩)
    | (go_at_call 109; refine (hidx _ _ _ hI hm1).mono ?_; rintro e w2 ⟨⟨j, rfl, hj1, hj2⟩, rfl⟩))
  go_ret
  exact ⟨⟨j, rfl, hfin m j hm2 hj1 hj2⟩, hQ⟩
theorem shTabCol_ok (t : TabT) (w : World) : Calls Tryz.prog 58 #[tabV t] w fun e w' => e = .returned (colV t.2) ∧ Below w.heap.size w w' := by
  obtain ⟨s, x, y, z⟩ := t
  unfold tabV colV
  dsimp only
  have hB : Below w.heap.size w (w.alloc (.cells #[.string s, .int .i64 x, .int .i64 y, .int .i64 z] 76)) := (Below.refl _ _).alloc (Nat.le_refl _) _
  go_enter Tryz.func58, Tryz.ntmps58
  go_wp2
  refine bodyPost_ret (results_cell_row rfl _ _ _ 47 #[.int .i64 x, .int .i64 y, .int .i64 z] (0, 0) _ rfl ?_ Tryz.underlying47 rfl (by kernel_rfl)) rfl ?_
  · have := heap_alloc_new (w.alloc (.cells #[.string s, .int .i64 x, .int .i64 y, .int .i64 z] 76)) (.cells #[.int .i64 x, .int .i64 y, .int .i64 z] 47)
    have e : (w.alloc (.cells #[.string s, .int .i64 x, .int .i64 y, .int .i64 z] 76)).heap.size = w.heap.size + 1 := by simp
    rw [e] at this
    exact this
  · exact ⟨rfl, hB.alloc (by simp) _⟩
def ColsAt (cs : List Value) (m : List Cel) (k : Nat) : Prop := ∀ (j : Nat) (c : Cel), j < k → m[j]? = some c → cs[j * 3]? = some (.int .i64 c.1) ∧ cs[j * 3 + 1]? = some (.int .i64 c.2.1) ∧ cs[j * 3 + 2]? = some (.int .i64 c.2.2)
theorem cols_set {cs : List Value} {m : List Cel} {k : Nat} {x y z : Int} (h : ColsAt cs m k) (hc : m[k]? = some (x, y, z)) (hk : k * 3 + 2 < cs.length) :
    ColsAt (((cs.set (k * 3) (.int .i64 x)).set (k * 3 + 1) (.int .i64 y)).set (k * 3 + 2) (.int .i64 z)) m (k + 1) := fun j c hj hcj => by
  rcases Nat.lt_or_eq_of_le (Nat.le_of_lt_succ hj) with h1 | rfl
  · obtain ⟨a0, a1, a2⟩ := h j c h1 hcj
    refine ⟨?_, ?_, ?_⟩
    · rw [List.getElem?_set_ne (by omega), List.getElem?_set_ne (by omega), List.getElem?_set_ne (by omega)]; exact a0
    · rw [List.getElem?_set_ne (by omega), List.getElem?_set_ne (by omega), List.getElem?_set_ne (by omega)]; exact a1
    · rw [List.getElem?_set_ne (by omega), List.getElem?_set_ne (by omega), List.getElem?_set_ne (by omega)]; exact a2
  · obtain rfl := Option.some.inj (hc.symm.trans hcj)
    refine ⟨?_, ?_, ?_⟩
    · rw [List.getElem?_set_ne (by omega), List.getElem?_set_ne (by omega), List.getElem?_set_self (by omega)]
    · rw [List.getElem?_set_ne (by omega), List.getElem?_set_self (by simp; omega)]
    · rw [List.getElem?_set_self (by simp; omega)]
theorem cols_row {w : World} {t : TypeId} {g : Nat} {cs : List Value} {m : List Cel} (h : RowK w t g cs) (hc : ColsAt cs m m.length) : RowAt w g 0 m := fun i c hi => by
  obtain ⟨a0, a1, a2⟩ := hc i c (List.getElem?_eq_some_iff.1 hi).1 hi
  simp only [Nat.zero_add]
  exact ⟨h.cell a0, h.cell a1, h.cell a2⟩
/-- The colours of some tabs. -/
theorem shListT_ok (l : List TabT) (v : Value) (w : World) (hl : SlT w v l) (hn : l.length ≤ 100000) :
    Calls Tryz.prog 57 #[v, .func (.func 58) #[] #[]] w fun e w' => ∃ B, e = .returned (.slice (some ⟨B, 0, none⟩) l.length l.length) ∧ B < w'.heap.size ∧ RowAt w' B 0 (l.map (·.2)) ∧ Below w.heap.size w w' := by
  obtain ⟨j0, hj, hy0, hy1, hy2⟩ := info_parts (P := Tryz.prog) (e := 47) (z := .agg #[.int .i64 0, .int .i64 0, .int .i64 0]) (size := 3) (bytes := 24) (by kernel_rfl)
  have hcall := fun (t : TabT) W => shTabCol_ok t W
  obtain ⟨m, hm⟩ : ∃ m, m = l.map (·.2) := ⟨_, rfl⟩
  have hml : m.length = l.length := by rw [hm, List.length_map]
  have hat : ∀ (k : Nat) (s : ByteArray) (c : Cel), l[k]? = some (s, c) → m[k]? = some c := fun k s c h => by rw [hm, List.getElem?_map, h]; rfl
  rw [← hm]
  clear hm
  obtain ⟨A, cap, rfl⟩ := hl.form
  go_enter Tryz.func57, Tryz.ntmps57
  go_wp2_with (at_make; refine wpList_make_full _ rfl _ _ 122 rfl w.heap.size 47 j0 _ 3 Tryz.underlying122 hj hy0 hy1 .i64 .i64 _ _ l.length rfl rfl rfl rfl ?c1 ?c2 ?c3 ?_)
  case c1 => rw [hy2]; omega
  case c2 => unfold maxLen; omega
  case c3 => exact Nat.le_refl _
  intro w1 hown hgrow
  have hX2 : Below w.heap.size w w1 := (Below.refl _ _).grown hgrow (Nat.le_refl _) (fun k hk => by cases hk)
  have hK := RowK.made hown
  have hlen := hown.1
  clear hgrow hown
  generalize (madeCells #[Value.int .i64 0, Value.int .i64 0, Value.int .i64 0] (l.length * 3)).toList = Z at hK hlen
  go_wp2
  go_loopw [13] (fun i wr => ∃ (k : Nat) (cs : List Value), k ≤ l.length ∧ i = .int .i64 k ∧ RowK wr 47 w.heap.size cs ∧ cs.length = l.length * 3 ∧ ColsAt cs m k ∧ Below w.heap.size w wr) (fun i _ => l.length - (intOf i).toNat)
  case atStart => exact ⟨0, Z, Nat.zero_le _, rfl, hK, hlen, fun j c hj _ => absurd hj (Nat.not_lt_zero j), hX2⟩
  case round =>
    clear hK hlen hX2 Z
    obtain ⟨k, cs, hk, rfl, hK, hlen, hall, hBw⟩ := hrel
    rcases Nat.lt_or_eq_of_le hk with hkn | rfl
    · obtain ⟨b, o, s, x, y, z, rfl, -, hb, hc, r0, r1, r2, r3⟩ := (hl.below hBw).cells hkn
      have hi0 : (0 : Int) ≤ k := by omega
      have hi1 : (k : Int) < l.length := by omega
      have hwk := wrap64_small (n := (k : Int) + 1) (by omega)
      have hcal := hcall (s, x, y, z)
      obtain ⟨v0, hv0⟩ : ∃ v0, cs[k * 3]? = some v0 := ⟨_, List.getElem?_eq_getElem (by omega)⟩
      obtain ⟨v1, hv1⟩ : ∃ v1, cs[k * 3 + 1]? = some v1 := ⟨_, List.getElem?_eq_getElem (by omega)⟩
      obtain ⟨v2, hv2⟩ : ∃ v2, cs[k * 3 + 2]? = some v2 := ⟨_, List.getElem?_eq_getElem (by omega)⟩
      unfold tabV colV at hcal
      dsimp only at hcal
      obtain ⟨Wt, hW⟩ : ∃ Wt, Wt = (wr.alloc (.cells #[.string s, .int .i64 x, .int .i64 y, .int .i64 z] 76)) := ⟨_, rfl⟩
      have hQt : Below wr.heap.size wr Wt := by subst hW; exact (Below.refl _ _).alloc (Nat.le_refl _) _
      have hKt := hK.below hQt
      have hBt := hBw.trans (hQt.mono hBw.size)
      have hres := cols_set hall (hat k s (x, y, z) hc) (by omega)
      clear hcall hl hall hat hc
      go_wp2_with (go_at_call 58; rw [← hW]; refine (hcal _).mono ?_; rintro e w2 ⟨rfl, hQ2⟩; have hK2 := hKt.below hQ2; have o0 := hK2.cell hv0; have o1 := hK2.cell hv1; have o2 := hK2.cell hv2; have fz := hK2.fz)
      have hB2 := hBt.trans (hQ2.mono hBt.size)
      go_roundw
      case rel => exact ⟨k + 1, _, hkn, by simp, ((hK2.set (k * 3) _).set (k * 3 + 1) _).set (k * 3 + 2) _, by simp [hlen], hres, ((hB2.setCell (p := ⟨w.heap.size, k * 3, none⟩) (Nat.le_refl _) _).setCell (p := ⟨w.heap.size, k * 3 + 1, none⟩) (Nat.le_refl _) _).setCell (p := ⟨w.heap.size, k * 3 + 2, none⟩) (Nat.le_refl _) _⟩
      case measure => simp [intOf]; omega
    · rw [← hml] at hall
      have hrw := cols_row hK hall
      clear hl hcall hat hall
      have HR := Lib.hid hrw
      clear hrw
      go_wp2
      go_ret
      exact ⟨w.heap.size, rfl, hK.lt, HR.out, hBw⟩
end Go.Proofs
