import Derived.Test.YtpjmobpmpghpeaaGreatDoorIntS
section
/- Shades: nearest; the colours of tabs; Nearest. -/
namespace Go.Proofs
open Go.RowKit Go.MapKept
set_option maxHeartbeats 16000000
set_option maxRecDepth 1000000
def Least1 (l : List Cel) (ws t : Cel) (j : Nat) : Prop := ∃ c, l[j]? = some c ∧ (∀ c' ∈ l, distW ws c t ≤ distW ws c' t) ∧ ∀ i c', i < j → l[i]? = some c' → distW ws c' t ≠ distW ws c t
theorem shNear_ok (l : List Cel) (ws t : Cel) (b o cap : Nat) (w : World) (hl : RowAt w b o l) (hb : b < w.heap.size) (h0 : 0 < l.length) (hn : l.length ≤ 100000) (hw : ColOk ws (-100) 100) (ht : ColOk t (-3000) 3000) (hc : ∀ c ∈ l, ColOk c (-3000) 3000) :
    Calls Tryz.prog 59 #[.slice (some ⟨b, o, none⟩) l.length cap, .func (.func 56) #[tgtV ws t] #[]] w fun e w' => (∃ j : Nat, e = .returned (.int .i64 j) ∧ Least1 l ws t j) ∧ Below w.heap.size w w' := by
  have h1 := shListI_ok l ws t b o cap w hl hb hn hw ht hc
  obtain ⟨D, hD⟩ : ∃ D, D = l.map fun c => distW ws c t := ⟨_, rfl⟩
  have hDl : D.length = l.length := by rw [hD, List.length_map]
  have hfin : ∀ (m : Int) (j : Nat), (∀ x ∈ D, m ≤ x) → D[j]? = some m → (∀ i x, i < j → D[i]? = some x → x ≠ m) → Least1 l ws t j := fun m j hm hj hf => by
    subst hD
    rw [List.getElem?_map] at hj
    obtain ⟨c, hcj, rfl⟩ := Option.map_eq_some_iff.1 hj
    refine ⟨c, hcj, fun c' hc' => hm _ (List.mem_map.2 ⟨c', hc', rfl⟩), fun i c' hi hc' => ?_⟩
    exact hf i _ hi (by rw [List.getElem?_map, hc']; rfl)
  rw [← hD] at h1
  clear hD hl hc hw ht
  have hmin := fun B W (h : IntsAt W B 0 D) => shMin_ok D B D.length W h (by omega) (by omega)
  have hidx := fun m B W (h : IntsAt W B 0 D) (hm : m ∈ D) => shIndex_ok D m B D.length W h hm (by omega)
  rw [← hDl] at h1 h0 hn ⊢
  clear hDl
  go_enter Tryz.func59, Tryz.ntmps59
  go_wp2_with (first
    | (go_at_call 108; refine h1.mono ?_; rintro e w1 ⟨B, rfl, hB1, hB2, hI, hQ⟩)
    | (go_at_call 94; refine (hmin _ _ hI).mono ?_; rintro e w2 ⟨⟨m, rfl, hm1, hm2⟩, rfl⟩)
    | (go_at_call 109; refine (hidx _ _ _ hI hm1).mono ?_; rintro e w2 ⟨⟨j, rfl, hj1, hj2⟩, rfl⟩))
  go_ret
  exact ⟨⟨j, rfl, hfin m j hm2 hj1 hj2⟩, hQ⟩
theorem shTabCol_ok (t : TabT) (w : World) : Calls Tryz.prog 58 #[tabV t] w fun e w' => e = .returned (colV t.2) ∧ Below w.heap.size w w' := by
  obtain ⟨s, x, y, z⟩ := t
  unfold tabV colV
  dsimp only
  have hB : Below w.heap.size w (w.alloc (.cells #[.string s, .int .i64 x, .int .i64 y, .int .i64 z] 76)) := (Below.refl _ _).alloc (Nat.le_refl _) _
  go_enter Tryz.func58, Tryz.ntmps58
  go_wp2
  refine bodyPost_ret (results_cell_row rfl _ _ _ 47 #[.int .i64 x, .int .i64 y, .int .i64 z] (0, 0) _ rfl ?_ Tryz.underlying47 rfl (by kernel_rfl)) rfl ?_
  · have := heap_alloc_new (w.alloc (.cells #[.string s, .int .i64 x, .int .i64 y, .int .i64 z] 76)) (.cells #[.int .i64 x, .int .i64 y, .int .i64 z] 47)
    have e : (w.alloc (.cells #[.string s, .int .i64 x, .int .i64 y, .int .i64 z] 76)).heap.size = w.heap.size + 1 := by simp
    rw [e] at this
    exact this
  · exact ⟨rfl, hB.alloc (by simp) _⟩
def ColsAt (cs : List Value) (m : List Cel) (k : Nat) : Prop := ∀ (j : Nat) (c : Cel), j < k → m[j]? = some c → cs[j * 3]? = some (.int .i64 c.1) ∧ cs[j * 3 + 1]? = some (.int .i64 c.2.1) ∧ cs[j * 3 + 2]? = some (.int .i64 c.2.2)
theorem cols_set {cs : List Value} {m : List Cel} {k : Nat} {x y z : Int} (h : ColsAt cs m k) (hc : m[k]? = some (x, y, z)) (hk : k * 3 + 2 < cs.length) :
    ColsAt (((cs.set (k * 3) (.int .i64 x)).set (k * 3 + 1) (.int .i64 y)).set (k * 3 + 2) (.int .i64 z)) m (k + 1) := fun j c hj hcj => by
  rcases Nat.lt_or_eq_of_le (Nat.le_of_lt_succ hj) with h1 | rfl
  · obtain ⟨a0, a1, a2⟩ := h j c h1 hcj
    refine ⟨?_, ?_, ?_⟩
    · rw [List.getElem?_set_ne (by omega), List.getElem?_set_ne (by omega), List.getElem?_set_ne (by omega)]; exact a0
    · rw [List.getElem?_set_ne (by omega), List.getElem?_set_ne (by omega), List.getElem?_set_ne (by omega)]; exact a1
    · rw [List.getElem?_set_ne (by omega), List.getElem?_set_ne (by omega), List.getElem?_set_ne (by omega)]; exact a2
  · obtain rfl := Option.some.inj (hc.symm.trans hcj)
    refine ⟨?_, ?_, ?_⟩
    · rw [List.getElem?_set_ne (by omega), List.getElem?_set_ne (by omega), List.getElem?_set_self (by omega)]
    · rw [List.getElem?_set_ne (by omega), List.getElem?_set_self (by simp; omega)]
    · rw [List.getElem?_set_self (by simp; omega)]
theorem cols_row {w : World} {t : TypeId} {g : Nat} {cs : List Value} {m : List Cel} (h : RowK w t g cs) (hc : ColsAt cs m m.length) : RowAt w g 0 m := fun i c hi => by
  obtain ⟨a0, a1, a2⟩ := hc i c (List.getElem?_eq_some_iff.1 hi).1 hi
  simp only [Nat.zero_add]
  exact ⟨h.cell a0, h.cell a1, h.cell a2⟩
/-- The colours of some tabs. -/
theorem shListT_ok (l : List TabT) (v : Value) (w : World) (hl : SlT w v l) (hn : l.length ≤ 100000) :
    Calls Tryz.prog 57 #[v, .func (.func 58) #[] #[]] w fun e w' => ∃ B, e = .returned (.slice (some ⟨B, 0, none⟩) l.length l.length) ∧ B < w'.heap.size ∧ RowAt w' B 0 (l.map (·.2)) ∧ Below w.heap.size w w' := by
  obtain ⟨j0, hj, hy0, hy1, hy2⟩ := info_parts (P := Tryz.prog) (e := 47) (z := .agg #[.int .i64 0, .int .i64 0, .int .i64 0]) (size := 3) (bytes := 24) (by kernel_rfl)
  have hcall := fun (t : TabT) W => shTabCol_ok t W
  obtain ⟨m, hm⟩ : ∃ m, m = l.map (·.2) := ⟨_, rfl⟩
  have hml : m.length = l.length := by rw [hm, List.length_map]
  have hat : ∀ (k : Nat) (s : ByteArray) (c : Cel), l[k]? = some (s, c) → m[k]? = some c := fun k s c h => by rw [hm, List.getElem?_map, h]; rfl
  rw [← hm]
  clear hm
  obtain ⟨A, cap, rfl⟩ := hl.form
  go_enter Tryz.func57, Tryz.ntmps57
  go_wp2_with (at_make; refine wpList_make_full _ rfl _ _ 122 rfl w.heap.size 47 j0 _ 3 Tryz.underlying122 hj hy0 hy1 .i64 .i64 _ _ l.length rfl rfl rfl rfl ?c1 ?c2 ?c3 ?_)
  case c1 => rw [hy2]; omega
  case c2 => unfold maxLen; omega
  case c3 => exact Nat.le_refl _
  intro w1 hown hgrow
  have hX2 : Below w.heap.size w w1 := (Below.refl _ _).grown hgrow (Nat.le_refl _) (fun k hk => by cases hk)
  have hK := RowK.made hown
  have hlen := hown.1
  clear hgrow hown
  generalize (madeCells #[Value.int .i64 0, Value.int .i64 0, Value.int .i64 0] (l.length * 3)).toList = Z at hK hlen
  go_wp2
  go_loopw [13] (fun i wr => ∃ (k : Nat) (cs : List Value), k ≤ l.length ∧ i = .int .i64 k ∧ RowK wr 47 w.heap.size cs ∧ cs.length = l.length * 3 ∧ ColsAt cs m k ∧ Below w.heap.size w wr) (fun i _ => l.length - (intOf i).toNat)
  case atStart => exact ⟨0, Z, Nat.zero_le _, rfl, hK, hlen, fun j c hj _ => absurd hj (Nat.not_lt_zero j), hX2⟩
  case round =>
    clear hK hlen hX2 Z
    obtain ⟨k, cs, hk, rfl, hK, hlen, hall, hBw⟩ := hrel
    rcases Nat.lt_or_eq_of_le hk with hkn | rfl
    · obtain ⟨b, o, s, x, y, z, rfl, -, hb, hc, r0, r1, r2, r3⟩ := (hl.below hBw).cells hkn
      have hi0 : (0 : Int) ≤ k := by omega
      have hi1 : (k : Int) < l.length := by omega
      have hwk := wrap64_small (n := (k : Int) + 1) (by omega)
      have hcal := hcall (s, x, y, z)
      obtain ⟨v0, hv0⟩ : ∃ v0, cs[k * 3]? = some v0 := ⟨_, List.getElem?_eq_getElem (by omega)⟩
      obtain ⟨v1, hv1⟩ : ∃ v1, cs[k * 3 + 1]? = some v1 := ⟨_, List.getElem?_eq_getElem (by omega)⟩
      obtain ⟨v2, hv2⟩ : ∃ v2, cs[k * 3 + 2]? = some v2 := ⟨_, List.getElem?_eq_getElem (by omega)⟩
      unfold tabV colV at hcal
      dsimp only at hcal
      obtain ⟨Wt, hW⟩ : ∃ Wt, Wt = (wr.alloc (.cells #[.string s, .int .i64 x, .int .i64 y, .int .i64 z] 76)) := ⟨_, rfl⟩
      have hQt : Below wr.heap.size wr Wt := by subst hW; exact (Below.refl _ _).alloc (Nat.le_refl _) _
      have hKt := hK.below hQt
      have hBt := hBw.trans (hQt.mono hBw.size)
      have hres := cols_set hall (hat k s (x, y, z) hc) (by omega)
      clear hcall hl hall hat hc
      go_wp2_with (go_at_call 58; rw [← hW]; refine (hcal _).mono ?_; rintro e w2 ⟨rfl, hQ2⟩; have hK2 := hKt.below hQ2; have o0 := hK2.cell hv0; have o1 := hK2.cell hv1; have o2 := hK2.cell hv2; have fz := hK2.fz)
      have hB2 := hBt.trans (hQ2.mono hBt.size)
      go_roundw
      case rel => exact ⟨k + 1, _, hkn, by simp, ((hK2.set (k * 3) _).set (k * 3 + 1) _).set (k * 3 + 2) _, by simp [hlen], hres, ((hB2.setCell (p := ⟨w.heap.size, k * 3, none⟩) (Nat.le_refl _) _).setCell (p := ⟨w.heap.size, k * 3 + 1, none⟩) (Nat.le_refl _) _).setCell (p := ⟨w.heap.size, k * 3 + 2, none⟩) (Nat.le_refl _) _⟩
      case measure => simp [intOf]; omega
    · rw [← hml] at hall
      have hrw := cols_row hK hall
      clear hl hcall hat hall
      have HR := Lib.hid hrw
      clear hrw
      go_wp2
      go_ret
      exact ⟨w.heap.size, rfl, hK.lt, HR.out, hBw⟩
end Go.Proofs
end

section
/- Shades: Nearest of the program. -/
namespace Go.Proofs
open Go.RowKit Go.MapKept
set_option maxHeartbeats 16000000
set_option maxRecDepth 1000000
theorem three_cellsS {W : World} {b : Nat} {T : TypeId} {x0 x1 x2 : Value} (h : W.heap[b]? = some (.cells #[x0, x1, x2] T (0, 0))) :
    W.cell? ⟨b, 0, none⟩ = some x0 ∧ W.cell? ⟨b, 1, none⟩ = some x1 ∧ W.cell? ⟨b, 2, none⟩ = some x2 := by
  have hz := fun j => cell_of_row W b j _ _ _ h
  refine ⟨?_, ?_, ?_⟩
  · rw [hz 0]; simp
  · rw [hz 1]; simp
  · rw [hz 2]; simp
theorem shMake : ∀ (fn : Fn) (first cap : Array Value) (w : World), (Instr.makeFunc fn first cap).run Tryz.prog w = .ok (.func fn first cap) w := fun _ _ _ _ => rfl
theorem guide_cols {ws : Cel} {l : List TabT} (ok : GuideOk ws l) : ∀ c ∈ l.map (·.2), ColOk c (-3000) 3000 := fun c hc => by
  obtain ⟨t, ht, rfl⟩ := List.mem_map.1 hc
  obtain ⟨i, hi⟩ := List.mem_iff_getElem?.1 ht
  have := (ok.at_ i t hi).2
  unfold ColOk at *
  omega
theorem shNearest_ok (ws c : Cel) (v : Value) (l : List TabT) (w : World) (hl : SlT w v l) (ok : GuideOk ws l) (hc : ColOk c 0 255) :
    Calls Tryz.prog 22 #[gdV ws v, colV c] w fun e w' => (∃ j : Nat, e = .returned (.tuple #[.int .i64 j, .int .i64 0]) ∧ Least1 (l.map (·.2)) ws c j) ∧ Below w.heap.size w w' := by
  have kG := fun W (h : SlT W v l) => shGuide_ok ws v l W h ok
  have kC := fun W => shColour_ok c W hc
  have kL := fun W (h : SlT W v l) => shListT_ok l v W h (by have := ok.few; omega)
  have hml : (l.map (·.2)).length = l.length := List.length_map _
  have kN := fun b cap W (h : RowAt W b 0 (l.map (·.2))) (hb : b < W.heap.size) => shNear_ok (l.map (·.2)) ws c b 0 cap W h hb (by rw [hml]; exact ok.pos) (by rw [hml]; have := ok.few; omega) (by have := ok.wt; unfold ColOk at *; omega) (by unfold ColOk at *; omega) (guide_cols ok)
  rw [hml] at kN
  generalize l.map (·.2) = m at kN kL ⊢
  clear hc ok hml
  obtain ⟨A, cap, rfl⟩ := hl.form
  obtain ⟨x, y, z⟩ := ws
  obtain ⟨p, q, r⟩ := c
  have ho := fun blk W => shFirst2 0 0 blk 2 W
  rw [show or3 0 0 0 = 0 from rfl] at ho
  unfold gdV colV at *
  unfold tgtV at kN
  dsimp only at *
  obtain ⟨W0, hW⟩ : ∃ W0, W0 = (w.alloc (.cells #[.int .i64 x, .int .i64 y, .int .i64 z, .slice A l.length cap] 50)).alloc (.cells #[.int .i64 p, .int .i64 q, .int .i64 r] 47) := ⟨_, rfl⟩
  have hB0 : Below w.heap.size w W0 := by subst hW; exact ((Below.refl _ _).alloc (Nat.le_refl _) _).alloc (by simp) _
  have hz0 : W0.heap.size = w.heap.size + 1 + 1 := by subst hW; simp
  have hrow : W0.heap[w.heap.size]? = some (.cells #[.int .i64 x, .int .i64 y, .int .i64 z, .slice A l.length cap] 50 (0, 0)) := by subst hW; exact (Below.heap_alloc _ _ _ (by simp)).trans (heap_alloc_new w _)
  have hcol : W0.heap[w.heap.size + 1]? = some (.cells #[.int .i64 p, .int .i64 q, .int .i64 r] 47 (0, 0)) := by
    have := heap_alloc_new (w.alloc (.cells #[.int .i64 x, .int .i64 y, .int .i64 z, .slice A l.length cap] 50)) (.cells #[.int .i64 p, .int .i64 q, .int .i64 r] 47)
    rw [← hW] at this
    simpa using this
  have kk : ∀ V, Below W0.heap.size W0 V → (V.cell? ⟨w.heap.size, 0, none⟩ = some (.int .i64 x) ∧ V.cell? ⟨w.heap.size, 1, none⟩ = some (.int .i64 y) ∧ V.cell? ⟨w.heap.size, 2, none⟩ = some (.int .i64 z) ∧ V.cell? ⟨w.heap.size, 3, none⟩ = some (.slice A l.length cap)) ∧ V.cell? ⟨w.heap.size + 1, 0, none⟩ = some (.int .i64 p) ∧ V.cell? ⟨w.heap.size + 1, 1, none⟩ = some (.int .i64 q) ∧ V.cell? ⟨w.heap.size + 1, 2, none⟩ = some (.int .i64 r) := fun V h => ⟨four_cells ((h.block _ (by omega)).trans hrow), three_cellsS ((h.block _ (by omega)).trans hcol)⟩
  have hD := (Below.refl W0.heap.size W0).drew
  have hky := kk _ hD
  have ks : ∀ V, Below W0.heap.size W0 V → SlT V (.slice A l.length cap) l := fun V h => hl.below (hB0.trans (h.mono hB0.size))
  have hmf := shMake
  clear hl hrow hcol
  go_enter Tryz.func22, Tryz.ntmps22
  go_wp2_with fail
  rw [← hW]
  clear hW
  go_region_held3 (fun w' => (w'.cell? ⟨w.heap.size, 0, none⟩ = some (.int .i64 x) ∧ w'.cell? ⟨w.heap.size, 1, none⟩ = some (.int .i64 y) ∧ w'.cell? ⟨w.heap.size, 2, none⟩ = some (.int .i64 z) ∧ w'.cell? ⟨w.heap.size, 3, none⟩ = some (.slice A l.length cap)) ∧ w'.cell? ⟨w.heap.size + 1, 0, none⟩ = some (.int .i64 p) ∧ w'.cell? ⟨w.heap.size + 1, 1, none⟩ = some (.int .i64 q) ∧ w'.cell? ⟨w.heap.size + 1, 2, none⟩ = some (.int .i64 r)) (first | exact hky | exact hkyA | go_keep)
    (first
      | (go_at_call 29; refine (kG _ (ks _ hD)).mono ?_; rintro e v1 ⟨rfl, hQ1⟩; have hX1 := hD.trans (hQ1.mono hD.size); have hky := kk _ hX1)
      | (go_at_call 55; refine (kC _).mono ?_; rintro e v2 ⟨rfl, hQ2⟩; have hX2 := hX1.trans (hQ2.mono hX1.size); have hky := kk _ hX2; have hX3 := hX2.alloc hX2.size (.cells #[.int .i64 0, .int .i64 0] 30); have hkyA := kk _ hX3)
      | (go_at_call 49; refine (ho _ _ ?_ ?_).mono ?_; (go_simp); (go_simp); rintro e w5 ⟨rfl, rfl⟩))
  rename_i hHeld
  clear hHeld hkyA hky kG kC
  generalize v2.alloc (.cells #[.int .i64 0, .int .i64 0] 30) = v3 at hX3 ⊢
  obtain ⟨⟨c0, c1, c2, c3⟩, d0, d1, d2⟩ := kk _ hX3
  have hs3 := ks _ hX3
  have hB3 := hB0.trans (hX3.mono hB0.size)
  clear hX1 hX2 hQ1 hQ2 hD ks ho
  go_wp2_with (go_at_call 57; refine (kL _ hs3).mono ?_; rintro e v4 ⟨B, rfl, hBl, hRow, hQ4⟩; have hX4 := hX3.trans (hQ4.mono hX3.size); obtain ⟨⟨c0, c1, c2, c3⟩, d0, d1, d2⟩ := kk _ hX4; have hB4 := hB3.trans (hQ4.mono hB3.size))
  go_wp2_with (go_at_call 59; refine (kN _ _ _ hRow hBl).mono ?_; rintro e v5 ⟨⟨j, rfl, hj⟩, hQ5⟩)
  go_ret2
  exact ⟨⟨j, rfl, hj⟩, hB4.trans (hQ5.mono hB4.size)⟩
end Go.Proofs
end
