import Derived.Test.YtgmcdnabgojaeaaBalP
import Derived.Test.YtgmcdnabgojaeaaCut
import Derived.Test.YtgmcdnabgojaeaaBlockR
import Derived.Test.YtgmcdnabgojaeaaApartG
import Derived.Test.YtgmcdnabgojaeaaWaxFew
import Derived.Test.YtgmcdnabgojaeaaWaxRing
import Derived.Test.YtgmcdnabgojaeaaStG
import Derived.Test.YtgmcdnabgojaeaaMvd
/- TopWaxBalls: the law's calls in one form. -/
namespace Go.Proofs
open Go.RowKit
set_option maxHeartbeats 8000000
set_option maxRecDepth 1000000
theorem ball_wraps {n : Nat} (hn : n ≤ 2) : IntKind.i64.wrap (4 * (n : Int)) = 4 * n ∧ IntKind.i64.wrap (4 * (n : Int) * n) = 4 * n * n ∧ IntKind.i64.wrap (4 * (n : Int) * n * n) = 4 * n * n * n ∧ IntKind.i64.wrap (6 * (n : Int)) = 6 * n ∧ IntKind.i64.wrap (6 * (n : Int) * n) = 6 * n * n ∧
    IntKind.i64.wrap (4 * (n : Int) * n * n + 6 * n * n) = 4 * n * n * n + 6 * n * n ∧ IntKind.i64.wrap (8 * (n : Int)) = 8 * n ∧ IntKind.i64.wrap (4 * (n : Int) * n * n + 6 * n * n + 8 * n) = 4 * n * n * n + 6 * n * n + 8 * n ∧ IntKind.i64.wrap (4 * (n : Int) * n * n + 6 * n * n + 8 * n + 3) = 4 * n * n * n + 6 * n * n + 8 * n + 3 ∧
    IntKind.i64.wrap (Int.tdiv (4 * (n : Int) * n * n + 6 * n * n + 8 * n + 3) 3) = ((ballN n).length : Int) := by
  obtain ⟨h0, h1, h2⟩ := ballN_len
  match n, hn with
  | 0, _ => rw [h0]; decide
  | 1, _ => rw [h1]; decide
  | 2, _ => rw [h2]; decide
/-- The six numbers of a box that lies in a variable. -/
theorem six_cells {V : World} {B : Nat} {c0 c1 c2 c3 c4 c5 : Value} {T : TypeId} (h : V.heap[B]? = some (.cells #[c0, c1, c2, c3, c4, c5] T (0, 0))) :
    (V.cell? ⟨B, 0, none⟩ = some c0 ∧ V.cell? ⟨B, 1, none⟩ = some c1 ∧ V.cell? ⟨B, 2, none⟩ = some c2 ∧ V.cell? ⟨B, 3, none⟩ = some c3 ∧ V.cell? ⟨B, 4, none⟩ = some c4 ∧ V.cell? ⟨B, 5, none⟩ = some c5) ∧
    (V.frozen? ⟨B, 0, none⟩ = false ∧ V.frozen? ⟨B, 1, none⟩ = false ∧ V.frozen? ⟨B, 2, none⟩ = false ∧ V.frozen? ⟨B, 3, none⟩ = false ∧ V.frozen? ⟨B, 4, none⟩ = false ∧ V.frozen? ⟨B, 5, none⟩ = false) := by
  have zl := fun j => cell_of_row V B j _ _ _ h
  have fz := fun j => frozen_of_row V B j _ _ h
  have z0 := zl 0
  have z1 := zl 1
  have z2 := zl 2
  have z3 := zl 3
  have z4 := zl 4
  have z5 := zl 5
  simp at z0 z1 z2 z3 z4 z5
  exact ⟨⟨z0, z1, z2, z3, z4, z5⟩, fz 0, fz 1, fz 2, fz 3, fz 4, fz 5⟩
theorem box_stored {W : World} {B : Nat} {c0 c1 c2 c3 c4 c5 d0 d1 d2 d3 d4 d5 : Value} {T : TypeId} (h : W.heap[B]? = some (.cells #[c0, c1, c2, c3, c4, c5] T (0, 0))) :
    ((((((W.setCell ⟨B, 0, none⟩ d0).setCell ⟨B, 1, none⟩ d1).setCell ⟨B, 2, none⟩ d2).setCell ⟨B, 3, none⟩ d3).setCell ⟨B, 4, none⟩ d4).setCell ⟨B, 5, none⟩ d5).heap[B]? = some (.cells #[d0, d1, d2, d3, d4, d5] T (0, 0)) := by
  have hz := heap_setCell_same _ B 5 _ _ d5 (heap_setCell_same _ B 4 _ _ d4 (heap_setCell_same _ B 3 _ _ d3 (heap_setCell_same _ B 2 _ _ d2 (heap_setCell_same _ B 1 _ _ d1 (heap_setCell_same _ B 0 _ _ d0 h)))))
  simpa using hz
/-- What is to be shown behind each order of a region is shown once. -/
theorem oneWay {C G : World → Prop} {Goal : Prop} (rest : ∀ W, C W → G W) (h : (∀ W, C W → G W) → Goal) : Goal := h rest
theorem chk_len {l : List Cel} (h : chkI l = 0) : l.length ≤ 4096 := (chkI_zero.1 h).1
/-- Near cells stay near when they are grown by a few steps. -/
theorem near_in {l : List Cel} (h : ∀ c ∈ l, Near c 200) {n : Nat} (hn : n ≤ 64) : ∀ c ∈ growN n l, Near c 1000 := fun c hc => by
  have := near_grow h n c hc
  unfold Near at this ⊢
  omega
theorem growS {l : List Cel} {v : Value} {n : Nat} {w : World} (hl : Sl w v l) (hc : chkI l = 0) (hn : n ≤ 64) (hsm : ∀ i, i ≤ n → ∀ S : List Cel, S.Nodup → (∀ c ∈ S, c ∈ growN i l) → S.length ≤ 4000) (hin : ∀ c ∈ growN n l, Near c 1000) :
    Calls Try.prog 6 #[v, .int .i64 n] w fun e w' => ∃ X, Up X ∧ (∀ c, c ∈ X ↔ c ∈ growN n l) ∧ chkI X = 0 ∧ Gives w X e w' := by
  refine (growG_okS l v n w hl hc hn hsm).mono ?_
  rintro e w' ⟨X, hu, hm, hlX, h, hB⟩
  have ho := outI_near fun c hc => hin c ((hm c).1 hc)
  rcases h with ⟨h, _⟩ | ⟨_, v', rfl, hS, B, rfl⟩
  · exact absurd ho h
  · exact ⟨X, hu, hm, chkI_zero.2 ⟨hlX, fun c hc => hin c ((hm c).1 hc), hu⟩, _, _, rfl, ⟨hS, _, _, rfl, Nat.le_refl _, by omega⟩, hB⟩
theorem cutX {a b X : List Cel} {va vb : Value} {w : World} (hX : (a.filter fun c => decide (c ∈ b)) = X) (ha : Sl w va a) (hb : St w vb b) (ca : chkI a = 0) (cb : chkI b = 0) :
    Calls Try.prog 17 #[va, vb] w (Gives w X) := by
  subst hX
  obtain ⟨h1, A, cap, rfl, h2, h3⟩ := hb
  refine (cut_ok a b va A cap w ha h1 h2 h3 ca cb).mono ?_
  rintro e w' ⟨v, rfl, h4, h5⟩
  exact gives_own h4 h5
theorem lessX {a b X : List Cel} {va vb : Value} {w : World} (hX : (a.filter fun c => !decide (c ∈ b)) = X) (ha : Sl w va a) (hb : St w vb b) (ca : chkI a = 0) (cb : chkI b = 0) :
    Calls Try.prog 14 #[va, vb] w (Gives w X) := by
  subst hX
  obtain ⟨h1, A, cap, rfl, h2, h3⟩ := hb
  refine (less_ok a b va A cap w ha h1 h2 h3 ca cb).mono ?_
  rintro e w' ⟨v, rfl, h4, h5⟩
  exact gives_own h4 h5
theorem chkS {a : List Cel} {va : Value} {w : World} (ha : Sl w va a) (ca : chkI a = 0) :
    Calls Try.prog 7 #[va] w fun e w' => e = .returned (.int .i64 0) ∧ Below w.heap.size w w' := by
  have := refCheckG a va w ha (by have := chk_len ca; unfold maxLen; omega)
  rwa [ca] at this
theorem sameX {l m : List Cel} {v u : Value} {w : World} (h : l = m) (hl : Sl w v l) (hm : Sl w u m) (hc : chkI l = 0) :
    Calls Try.prog 8 #[v, u] w fun e w' => e = .returned (.bool true) ∧ Below w.heap.size w w' := by
  refine (sameSl l m v u w hl hm (chk_len hc)).mono ?_
  rintro e w' ⟨rfl, q, rfl⟩
  exact ⟨by rw [decide_eq_true h], ⟨rfl, rfl, rfl, Nat.le_refl _, fun _ _ => rfl⟩⟩
/-- What the law asks of its input before it looks at the sets. -/
def balGate (a b : List Cel) (n : Int) : Bool := waxB 8 [a, b] && (!decide (a.length = 0) && (!decide (b.length = 0) && (decide (0 ≤ n) && decide (n ≤ 2))))
theorem bal_few {a b : List Cel} {va vb : Value} {w : World} (ha : Sl w va a) (hb : Sl w vb b) (la : a.length ≤ maxLen) (lb : b.length ≤ maxLen) :
    Calls Try.prog 4 #[.int .i64 8, .slice (some ⟨w.heap.size, 0, none⟩) 2 2] (w.alloc (.cells #[va, vb] 22)) fun e w' => e = .returned (.bool (waxB 8 [a, b])) ∧ Below (w.heap.size + 1) (w.alloc (.cells #[va, vb] 22)) w' := by
  have h := waxFew_ok 8 (by omega) [va, vb] [a, b] w.heap.size 0 2 (w.alloc (.cells #[va, vb] 22)) rfl (by simp) (by simp)
    (fun i v hi => by
      match i, hi with
      | 0, hi => obtain rfl : va = v := by simpa using hi
                 go_simp
      | 1, hi => obtain rfl : vb = v := by simpa using hi
                 go_simp)
    (fun i v l hi hl => by
      have hA := (Below.refl w.heap.size w).alloc (Nat.le_refl _) (.cells #[va, vb] 22)
      match i, hi, hl with
      | 0, hi, hl => obtain rfl : va = v := by simpa using hi
                     obtain rfl : a = l := by simpa using hl
                     exact ⟨ha.below hA, la⟩
      | 1, hi, hl => obtain rfl : vb = v := by simpa using hi
                     obtain rfl : b = l := by simpa using hl
                     exact ⟨hb.below hA, lb⟩)
  simpa using h
theorem bal_out (a b : List Cel) (va vb : Value) (n : Int) (w : World) (ha : Sl w va a) (hb : Sl w vb b) (la : a.length ≤ maxLen) (lb : b.length ≤ maxLen) (hg : balGate a b n = false) :
    Calls Try.prog 3 #[va, vb, .int .i64 n] w fun e w' => e = .returned (.bool true) ∧ Below w.heap.size w w' := by
  have hw := bal_few ha hb la lb
  unfold balGate at hg
  generalize waxB 8 [a, b] = g1 at hg hw
  obtain ⟨A, ka, rfl⟩ := ha.form
  obtain ⟨B, kb, rfl⟩ := hb.form
  clear ha hb la lb
  go_enter Try.func3, Try.ntmps3
  go_wp2_with fail
  refine hw.mono ?_
  rintro e w3 ⟨rfl, hB3⟩
  have hB03 : Below w.heap.size w w3 := ((Below.refl _ _).alloc (Nat.le_refl _) _).trans (hB3.mono (by omega))
  clear hw hB3
  have hring := waxRing_ok w3
  cases g1 with
  | false =>
    clear hg
    go_wp2_with (first
      | (go_at_call 5; refine hring.mono ?_; rintro e w4 ⟨rfl, hB4⟩))
    go_ret
    exact ⟨rfl, hB03.trans (hB4.mono hB03.size)⟩
  | true =>
    by_cases ea : a.length = 0
    · have e0 : (((a.length : Nat) : Int) == 0) = true := by rw [ea]; rfl
      clear hg ea
      go_wp2_with (first
        | (go_at_call 5; refine hring.mono ?_; rintro e w4 ⟨rfl, hB4⟩))
      go_ret
      exact ⟨rfl, hB03.trans (hB4.mono hB03.size)⟩
    · have e0 : (((a.length : Nat) : Int) == 0) = false := by rw [beq_eq_false_iff_ne]; omega
      by_cases eb : b.length = 0
      · have e1 : (((b.length : Nat) : Int) == 0) = true := by rw [eb]; rfl
        clear hg ea eb
        go_wp2_with (first
          | (go_at_call 5; refine hring.mono ?_; rintro e w4 ⟨rfl, hB4⟩))
        go_ret
        exact ⟨rfl, hB03.trans (hB4.mono hB03.size)⟩
      · have e1 : (((b.length : Nat) : Int) == 0) = false := by rw [beq_eq_false_iff_ne]; omega
        by_cases en : n < 0
        · clear hg ea eb
          go_wp2_with (first
            | (go_at_call 5; refine hring.mono ?_; rintro e w4 ⟨rfl, hB4⟩))
          go_ret
          exact ⟨rfl, hB03.trans (hB4.mono hB03.size)⟩
        · have en2 : 2 < n := by
            refine Classical.byContradiction fun h2 => ?_
            rw [decide_eq_false ea, decide_eq_false eb, decide_eq_true (show 0 ≤ n by omega), decide_eq_true (show n ≤ 2 by omega)] at hg
            exact absurd hg (by decide)
          clear hg ea eb
          go_wp2_with (first
            | (go_at_call 5; refine hring.mono ?_; rintro e w4 ⟨rfl, hB4⟩))
          go_ret
          exact ⟨rfl, hB03.trans (hB4.mono hB03.size)⟩
end Go.Proofs
