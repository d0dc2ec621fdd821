/- ShopNears: distances, nearest tabs and mixes; no world. -/
import Derived.Test.YtpjmobpmpghpeaaGreatDoorShdAC
namespace Go.Proofs
open Go.RowKit Go.MapKept
set_option maxHeartbeats 4000000
set_option maxRecDepth 1000000
theorem term_sym (w x p : Int) : termD w x p = termD w p x := by
  unfold termD
  rw [show x - p = -(p - x) by omega]
  simp only [Int.mul_neg, Int.neg_mul, Int.neg_neg]
theorem dist_sym (ws a b : Cel) : distW ws a b = distW ws b a := by
  unfold distW
  rw [term_sym ws.1, term_sym ws.2.1, term_sym ws.2.2]
theorem term_pos {w x p : Int} (hw : 1 ≤ w) : 0 ≤ termD w x p ∧ (termD w x p = 0 → x = p) := by
  unfold termD
  rw [Int.mul_assoc]
  have h1 : 0 ≤ (x - p) * (x - p) := by
    rcases Int.le_total 0 (x - p) with h | h
    · exact Int.mul_nonneg h h
    · exact Int.mul_nonneg_of_nonpos_of_nonpos h h
  refine ⟨Int.mul_nonneg (by omega) h1, fun h => ?_⟩
  rcases Int.mul_eq_zero.1 h with h | h
  · omega
  · rcases Int.mul_eq_zero.1 h with h | h <;> omega
theorem dist_pos {ws a b : Cel} (hw : ColOk ws 1 100) : 0 ≤ distW ws a b ∧ (distW ws a b = 0 ↔ a = b) := by
  unfold ColOk at hw
  have h1 := term_pos (x := a.1) (p := b.1) hw.1.1
  have h2 := term_pos (x := a.2.1) (p := b.2.1) hw.2.1.1
  have h3 := term_pos (x := a.2.2) (p := b.2.2) hw.2.2.1
  unfold distW
  refine ⟨by omega, fun h => ?_, fun h => ?_⟩
  · have e1 := h1.2 (by omega)
    have e2 := h2.2 (by omega)
    have e3 := h3.2 (by omega)
    obtain ⟨a0, a1, a2⟩ := a
    obtain ⟨b0, b1, b2⟩ := b
    simp only at e1 e2 e3
    subst e1 e2 e3
    rfl
  · subst h
    unfold termD
    simp
/-- What the law asks of the nearest tab to the colour of tab i. -/
theorem near_own {T : List TabT} {ws : Cel} {i j : Nat} {t : TabT} (hw : ColOk ws 1 100) (hi : T[i]? = some t) (h : Least1 (T.map (·.2)) ws t.2 j) : j ≤ i ∧ ∃ s, T[j]? = some (s, t.2) := by
  obtain ⟨c, h1, h2, h3⟩ := h
  have hself : distW ws t.2 t.2 = 0 := ((dist_pos hw).2).2 rfl
  have hc0 : distW ws c t.2 = 0 := by
    have := h2 t.2 (List.mem_map.2 ⟨t, List.mem_of_getElem? hi, rfl⟩)
    have := (dist_pos (a := c) (b := t.2) hw).1
    omega
  have hc : c = t.2 := ((dist_pos hw).2).1 hc0
  subst hc
  refine ⟨?_, ?_⟩
  · apply Classical.byContradiction
    intro hn
    exact h3 i t.2 (by omega) (by rw [List.getElem?_map, hi]; rfl) rfl
  · rw [List.getElem?_map] at h1
    obtain ⟨⟨s, c'⟩, h4, h5⟩ := Option.map_eq_some_iff.1 h1
    exact ⟨s, by rw [h4, ← h5]⟩
theorem near_far {T : List TabT} {ws t : Cel} {i n : Nat} {c cn : TabT} (h : Least1 (T.map (·.2)) ws t n) (hn : T[n]? = some cn) (hi : T[i]? = some c) : distW ws cn.2 t ≤ distW ws c.2 t ∧ (i < n → distW ws c.2 t ≠ distW ws cn.2 t) := by
  obtain ⟨c', h1, h2, h3⟩ := h
  have e : c' = cn.2 := by
    rw [List.getElem?_map, hn] at h1
    exact (Option.some.inj h1).symm
  subst e
  refine ⟨h2 _ (List.mem_map.2 ⟨c, List.mem_of_getElem? hi, rfl⟩), fun hin => h3 i _ hin (by rw [List.getElem?_map, hi]; rfl)⟩
/-- No mix is nearer than the best one. -/
theorem mix_far {T : List TabT} {ws t : Cel} {m : Int} {i k : Nat} {e : Int} {s1 s2 : ByteArray} {c1 c2 : Cel} (h : MinM ws T t m) (hik : i < k) (h1 : T[i]? = some (s1, c1)) (h2 : T[k]? = some (s2, c2)) (he : 1 ≤ e ∧ e ≤ 7) : m ≤ distW ws (mixC (8 - e) c1 e c2) (mul8 t) := by
  have hk := (List.getElem?_eq_some_iff.1 h2).1
  have e1 : colM T ((i : Int), (k : Int), e) = mixC (8 - e) c1 e c2 := by
    unfold colM
    dsimp only
    simp only [Int.toNat_natCast, h1, h2]
    rfl
  rw [← e1]
  exact h.2 _ (List.mem_map.2 ⟨((i : Int), (k : Int), e), mixL_ok.2 ⟨i, k, rfl, rfl, hik, hk, he.1, he.2⟩, rfl⟩)
end Go.Proofs
