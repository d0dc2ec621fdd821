/- The reference's Union, for any two lists. -/
import Derived.Test.YtedjohdoenncbaaGreatDoorInsR
import Derived.Laws.AppendOwnNone
namespace Go.Proofs
open Go.RowKit
set_option maxHeartbeats 8000000
set_option maxRecDepth 1000000
theorem flatC_len3 (l : List Cel) : (flatC l).length = l.length * 3 := by
  induction l with
  | nil => rfl
  | cons c l ih => rw [flatC_cons]; simp [ih]; omega
theorem flatC_one3 {l : List Cel} : ∀ u ∈ flatC l, u.oneCell' = true := by
  induction l with
  | nil => intro u hu; simp [flatC] at hu
  | cons c l ih =>
    intro u hu
    rw [flatC_cons] at hu
    simp only [List.mem_cons] at hu
    rcases hu with rfl | rfl | rfl | hu
    · rfl
    · rfl
    · rfl
    · exact ih u hu
theorem flatC_at3 {l : List Cel} {j : Nat} {u : Value} (h : (flatC l)[j]? = some u) : ∃ c, l[j / 3]? = some c ∧ (j % 3 = 0 ∧ u = .int .i64 c.1 ∨ j % 3 = 1 ∧ u = .int .i64 c.2.1 ∨ j % 3 = 2 ∧ u = .int .i64 c.2.2) := by
  have hj : j < l.length * 3 := by
    have := (List.getElem?_eq_some_iff.1 h).1
    rwa [flatC_len3] at this
  have hk : j / 3 < l.length := by omega
  refine ⟨l[j/3], List.getElem?_eq_getElem hk, ?_⟩
  obtain ⟨h0, h1, h2⟩ := flatC_get (List.getElem?_eq_getElem hk)
  rcases (show j % 3 = 0 ∨ j % 3 = 1 ∨ j % 3 = 2 by omega) with hr | hr | hr
  · rw [show j / 3 * 3 = j by omega, h] at h0
    exact .inl ⟨hr, Option.some.inj h0⟩
  · rw [show j / 3 * 3 + 1 = j by omega, h] at h1
    exact .inr (.inl ⟨hr, Option.some.inj h1⟩)
  · rw [show j / 3 * 3 + 2 = j by omega, h] at h2
    exact .inr (.inr ⟨hr, Option.some.inj h2⟩)
theorem sl_cells {w : World} {a : Addr} {l : List Cel} (h : l ≠ [] → a.spot = none ∧ a.block < w.heap.size ∧ RowAt w a.block a.off l) (j : Nat) (u : Value) (hu : (flatC l)[j]? = some u) : w.cell? (a.add j) = some u := by
  obtain ⟨c, hc, hr⟩ := flatC_at3 hu
  obtain ⟨b, o, s⟩ := a
  obtain ⟨h1, h2, h3⟩ := h (fun e => by subst e; simp at hc)
  obtain rfl : s = none := h1
  obtain ⟨r0, r1, r2⟩ := h3 _ c hc
  have e : (⟨b, o, none⟩ : Addr).add j = ⟨b, o + j, none⟩ := by
    unfold Addr.add
    split
    · rename_i h; subst h; rfl
    · rfl
  rw [e]
  rcases hr with ⟨hr, rfl⟩ | ⟨hr, rfl⟩ | ⟨hr, rfl⟩
  · rw [show o + j = o + j / 3 * 3 by omega]; exact r0
  · rw [show o + j = o + j / 3 * 3 + 1 by omega]; exact r1
  · rw [show o + j = o + j / 3 * 3 + 2 by omega]; exact r2
theorem Own.mono {w : World} {B B' : Nat} {v : Value} {l : List Cel} (h : Own w B v l) (hB : B' ≤ B) : Own w B' v l := by
  refine ⟨h.1, ?_⟩
  rcases h.2 with h1 | ⟨g, cap, cur, rfl, hg, r⟩
  · exact .inl h1
  · exact .inr ⟨g, cap, cur, rfl, Nat.le_trans hB hg, r⟩
theorem own_of {w : World} {B n : Nat} {v : Value} {xs : List Value} {l : List Cel} (h : w.ownsRow B 38 3 v n xs) (hn : n = l.length) (hx : xs = flatC l) : Own w B v l := by
  subst hn hx
  exact h
/-- append, of a list of cells, to a row of the call's own. -/
theorem wpList_append_sl {w : World} {ops : Array Oper} {rest : List Oper} {o : Oper} {a : Act} {Q : Exit → Act → World → Prop} (hgd : o.guard = none) (s x : Operand)
    (ho : o.op = .call { callee := .builtin .append, args := #[s, x], argTypes := #[22, 22] }) (B : Nat) (hB : B ≤ w.heap.size) (v : Value) (l : List Cel) (hs : a.eval s = v) (hown : Own w B v l)
    (vx : Value) (m : List Cel) (hx : a.eval x = vx) (hm : Sl w vx m) (hn : l.length + m.length ≤ 1000000)
    (h : ∀ v' w', Own w' B v' (l ++ m) → Below B w w' → wpList Tryz.prog ops Q rest (a.put o.dst v') w') : wpList Tryz.prog ops Q (o :: rest) a w := by
  obtain ⟨j0, hj, hy0, hy1, hy2⟩ := info_parts (P := Tryz.prog) (e := 38) (z := .agg #[.int .i64 0, .int .i64 0, .int .i64 0]) (size := 3) (bytes := 24) (by kernel_rfl)
  rcases hm with ⟨rfl, rfl⟩ | ⟨ad, cap, rfl, hm⟩
  · refine wpList_append_own_none hgd s x _ ho B _ j0 3 Tryz.underlying22 hj v l.length (flatC l) hs hown hx (h v w ?_ (Below.refl _ _))
    rw [List.append_nil]
    exact hown
  · refine wpList_append_own w hgd s x _ ho B 38 j0 _ 3 24 Tryz.underlying22 hj hy0 hy1 hy2 rfl (by decide) v l.length (flatC l) hs hown ad m.length cap (flatC m) hx (flatC_len3 m) (sl_cells hm) flatC_one3 (by unfold maxLen; omega) (by omega) hB fun v' w' h1 h2 _ => h v' w' (own_of h1 List.length_append.symm (flatC_append l m).symm) ?_
    exact (Below.refl B w).grown h2 hB fun k hk => (hown.lt k hk).1
theorem refUnion_ok (a b : List Cel) (va vb : Value) (w : World) (ha : Sl w va a) (hb : Sl w vb b) (hn : a.length ≤ 400000) (hm : b.length ≤ 400000) :
    Calls Tryz.prog 22 #[va, vb] w fun e w' => ∃ v' out, e = .returned v' ∧ Own w' w.heap.size v' out ∧ Up out ∧ (∀ c, c ∈ out ↔ c ∈ a ∨ c ∈ b) ∧ Below w.heap.size w w' := by
  have hE : Own (w.alloc (.cells #[] 38)) w.heap.size (.slice (some ⟨w.heap.size, 0, none⟩) 0 0) [] := World.ownsRow_lit w #[] 0 (Nat.le_refl _) (Nat.zero_le _) rfl
  have hB0 : Below w.heap.size w (w.alloc (.cells #[] 38)) := (Below.refl _ _).alloc (Nat.le_refl _) _
  have ha0 := ha.below hB0
  go_enter Tryz.func22, Tryz.ntmps22
  go_wp2_with (at_builtin; refine wpList_append_sl rfl _ _ rfl w.heap.size ?cE _ [] rfl hE _ a rfl ha0 ?cC ?_)
  case cC => simp; omega
  case cE => simp
  intro v1 w1 hown1 hB1
  have hB01 := hB0.trans hB1
  have hb1 := hb.below hB01
  clear ha0 hE
  go_wp2_with (at_builtin; refine wpList_append_sl rfl _ _ rfl w.heap.size ?dE _ a rfl hown1 _ b rfl hb1 ?dC ?_)
  case dC => omega
  case dE => exact hB01.size
  intro v2 w2 hown2 hB2
  have hB02 := hB01.trans hB2
  clear hown1 hb1
  go_wp2_with (go_at_call 21; refine (refSorted_ok (a ++ b) _ _ hown2.sl ?dF).mono ?_; rotate_left; rintro e w3 ⟨v3, out, rfl, h1, h2, h3, h4⟩)
  case dF => rw [List.length_append]; omega
  go_ret
  exact ⟨v3, out, rfl, h1.mono hB02.size, h2, fun c => (h3 c).trans List.mem_append, hB02.trans (h4.mono hB02.size)⟩
end Go.Proofs
