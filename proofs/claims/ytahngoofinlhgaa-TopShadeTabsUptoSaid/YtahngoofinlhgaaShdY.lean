/- TopShadeTabs: append of tabs. -/
import Derived.Test.YtahngoofinlhgaaShdV
namespace Go.Proofs
open Go.RowKit Go.MapKept
set_option maxHeartbeats 16000000
set_option maxRecDepth 1000000
theorem tab_flat {w : World} {b o : Nat} {l : List TabT} (h : TabAt w b o l) : ∀ (j : Nat) (u : Value), (flatT l)[j]? = some u → w.cell? ⟨b, o + j, none⟩ = some u := fun j u hj => by
  have hlen : j < l.length * 4 := by rw [← flatT_len]; exact (List.getElem?_eq_some_iff.1 hj).1
  have hq : j / 4 < l.length := by omega
  obtain ⟨t, ht⟩ : ∃ t, l[j / 4]? = some t := ⟨_, List.getElem?_eq_getElem hq⟩
  obtain ⟨f0, f1, f2, f3⟩ := flatT_get ht
  obtain ⟨c0, c1, c2, c3⟩ := h _ _ ht
  rcases (show j % 4 = 0 ∨ j % 4 = 1 ∨ j % 4 = 2 ∨ j % 4 = 3 by omega) with hr | hr | hr | hr
  · rw [show j / 4 * 4 = j by omega, hj] at f0
    rw [show o + j / 4 * 4 = o + j by omega] at c0
    rw [Option.some.inj f0]; exact c0
  · rw [show j / 4 * 4 + 1 = j by omega, hj] at f1
    rw [show o + j / 4 * 4 + 1 = o + j by omega] at c1
    rw [Option.some.inj f1]; exact c1
  · rw [show j / 4 * 4 + 2 = j by omega, hj] at f2
    rw [show o + j / 4 * 4 + 2 = o + j by omega] at c2
    rw [Option.some.inj f2]; exact c2
  · rw [show j / 4 * 4 + 3 = j by omega, hj] at f3
    rw [show o + j / 4 * 4 + 3 = o + j by omega] at c3
    rw [Option.some.inj f3]; exact c3
theorem SlT.addr {w : World} {A : Option Addr} {n cap : Nat} {l : List TabT} (h : SlT w (.slice A n cap) l) (hp : 0 < l.length) : ∃ b o, A = some ⟨b, o, none⟩ ∧ b < w.heap.size ∧ TabAt w b o l := by
  rcases h with ⟨_, rfl⟩ | ⟨a, cap', e, h⟩
  · exact absurd hp (Nat.not_lt_zero _)
  · injection e with e1 e2 _
    obtain ⟨h1, h2, h3⟩ := h (fun e => by subst e; exact absurd hp (Nat.not_lt_zero _))
    obtain ⟨b, o, s⟩ := a
    obtain rfl : s = none := h1
    exact ⟨b, o, e1, h2, h3⟩
theorem addr_add (b o j : Nat) : (⟨b, o, none⟩ : Addr).add j = ⟨b, o + j, none⟩ := by
  unfold Addr.add
  split
  · simp_all
  · rfl
/-- append of some tabs to a row of the call's own. -/
theorem run_append_tab (w : World) (ty : TypeId) (B : Nat) (v : Value) (l m : List TabT) (hown : OwnT 49 w B v l) (b o c : Nat) (hm : TabAt w b o m) (hn : l.length + m.length ≤ 100000) (hB : B ≤ w.heap.size) :
    ∃ A2 c2 w', (Builtin.append_ #[45, 45] ty #[v, .slice (some ⟨b, o, none⟩) m.length c]).run Try.prog w = .ok (.slice A2 (l.length + m.length) c2) w' ∧ OwnT 49 w' B (.slice A2 (l.length + m.length) c2) (l ++ m) ∧ w.grownBy w' v.ownBlock ∧ ((Value.slice A2 (l.length + m.length) c2).ownBlock = v.ownBlock ∨ (Value.slice A2 (l.length + m.length) c2).ownBlock = some w.heap.size) := by
  obtain ⟨j0, hj, hy0, hy1, hy2⟩ := info_parts (P := Try.prog) (e := 49) (z := .agg #[.string ⟨#[]⟩, .int .i64 0, .int .i64 0, .int .i64 0]) (size := 4) (bytes := 40) (by kernel_rfl)
  obtain ⟨v', w', hr, h2, h3, h4, h5⟩ := run_append_own_at (P := Try.prog) w B 45 ty 49 j0 _ 4 40 Try.underlying45 hj hy0 hy1 hy2 rfl (by decide) v l.length (flatT l) hown ⟨b, o, none⟩ m.length c (flatT m) (flatT_len m) (fun j u hu => by rw [addr_add]; exact tab_flat hm j u hu) flatT_one (by unfold maxLen; omega) (by omega) hB
  have hO : OwnT 49 w' B v' (l ++ m) := by
    unfold OwnT
    rw [List.length_append, flatT_append]
    exact h2
  obtain ⟨A2, c2, hv⟩ := hO.sl.form
  rw [List.length_append] at hv
  subst hv
  exact ⟨A2, c2, w', hr, hO, h3, h5⟩
theorem own_empty (W : World) : OwnT 49 (W.alloc (.cells #[] 49)) W.heap.size (.slice (some ⟨W.heap.size, 0, none⟩) 0 0) [] := World.ownsRow_lit W #[] 0 (Nat.le_refl _) (Nat.zero_le _) rfl
end Go.Proofs
