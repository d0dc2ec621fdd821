/- Jobs: all orders, of the reference. -/
import Derived.Test.YtokfniicbeemdaaGreatDoorOrdR
namespace Go.Proofs
open Go.RowKit Go.MapKept
set_option maxHeartbeats 16000000
set_option maxRecDepth 1000000
/-- A row of a call's own whose slices read as a list of lists that are not empty. -/
def LLR (w : World) (B : Nat) (v : Value) (S : List (List Int)) : Prop := ∃ vals : List Value, w.ownsRow B 23 1 v S.length vals ∧ vals.length = S.length ∧ ∀ (i : Nat) (x : List Int), S[i]? = some x → x ≠ [] ∧ ∃ u, vals[i]? = some u ∧ SlI w u x ∧ (∀ g, v.ownBlock = some g → Off g u) ∧ (∀ (a : Addr) (n c : Nat), u = .slice (some a) n c → B ≤ a.block)
theorem LLR.lower {w : World} {B B' : Nat} {v : Value} {S : List (List Int)} (h : LLR w B' v S) (hle : B ≤ B') : LLR w B v S := by
  obtain ⟨vals, h1, h2, h3⟩ := h
  refine ⟨vals, ⟨h1.1, h1.2.imp id fun ⟨g, cap, cur, e1, e2, r⟩ => ⟨g, cap, cur, e1, Nat.le_trans hle e2, r⟩⟩, h2, fun i x hi => ?_⟩
  obtain ⟨hx, u, h4, h5, h6, h7⟩ := h3 i x hi
  exact ⟨hx, u, h4, h5, h6, fun a n c e => Nat.le_trans hle (h7 a n c e)⟩
theorem LLR.nil (w : World) (B : Nat) : LLR w B (.slice none 0 0) [] := ⟨[], World.ownsRow_nil w B _ _, rfl, fun i x h => by simp at h⟩
theorem LLR.lt {w : World} {B : Nat} {v : Value} {S : List (List Int)} (h : LLR w B v S) : ∀ g, v.ownBlock = some g → B ≤ g ∧ g < w.heap.size := fun g e => by
  obtain ⟨vals, h1, -, -⟩ := h
  rcases h1.2 with ⟨e1, _⟩ | ⟨g', cap, cur, rfl, hB, hg, r⟩
  · rw [e1] at e; cases e
  · obtain rfl : g' = g := by simpa [Value.ownBlock] using e
    exact ⟨hB, (Array.getElem?_eq_some_iff.1 hg).1⟩
theorem LLR.below {w w' : World} {B : Nat} {v : Value} {S : List (List Int)} (h : LLR w B v S) (hb : Below w.heap.size w w') : LLR w' B v S := by
  have hlt := h.lt
  obtain ⟨vals, h1, h2, h3⟩ := h
  refine ⟨vals, ⟨h1.1, h1.2.imp id fun ⟨g, cap, cur, e1, e2, e3, r⟩ => ⟨g, cap, cur, e1, e2, (hb.block g (hlt g (by rw [e1]; rfl)).2).trans e3, r⟩⟩, h2, fun i x hi => ?_⟩
  obtain ⟨hx, u, h4, h5, h6, h7⟩ := h3 i x hi
  exact ⟨hx, u, h4, h5.below hb, h6, h7⟩
theorem LLR.form {w : World} {B : Nat} {v : Value} {S : List (List Int)} (h : LLR w B v S) : (v = .slice none 0 0 ∧ S = []) ∨ ∃ g cap, v = .slice (some ⟨g, 0, none⟩) S.length cap ∧ B ≤ g ∧ g < w.heap.size ∧ ∃ vals : List Value, vals.length = S.length ∧ (∀ j u, vals[j]? = some u → w.cell? ⟨g, j, none⟩ = some u) ∧ ∀ (i : Nat) (x : List Int), S[i]? = some x → x ≠ [] ∧ ∃ u, vals[i]? = some u ∧ SlI w u x ∧ Off g u ∧ (∀ (a : Addr) (n c : Nat), u = .slice (some a) n c → B ≤ a.block) := by
  have hlt := h.lt
  obtain ⟨vals, h1, h2, h3⟩ := h
  have h1' := h1
  rcases h1.2 with ⟨e1, e2⟩ | ⟨g, cap, cur, rfl, hB, hg, r⟩
  · exact .inl ⟨e1, List.eq_nil_of_length_eq_zero e2⟩
  · refine .inr ⟨g, cap, rfl, hB, (Array.getElem?_eq_some_iff.1 hg).1, vals, h2, fun j u hj => ?_, fun i x hi => ?_⟩
    · have := World.ownsRow.cells h1' (g := g) rfl j u hj
      rw [addr_add0, Nat.zero_add] at this
      exact this
    · obtain ⟨hx, u, h4, h5, h6, h7⟩ := h3 i x hi
      exact ⟨hx, u, h4, h5, h6 g rfl, h7⟩
theorem LLR.sl {w : World} {B : Nat} {v : Value} {S : List (List Int)} (h : LLR w B v S) : SlLL w v S := by
  rcases h.form with h | ⟨g, cap, rfl, -, hg, vals, -, hc, hS⟩
  · exact .inl h
  · refine .inr ⟨_, cap, rfl, fun _ => ⟨rfl, hg, fun i x hi => ?_⟩⟩
    obtain ⟨-, u, h4, h5, -, -⟩ := hS i x hi
    exact ⟨u, by rw [Nat.zero_add]; exact hc i u h4, h5⟩
theorem SlI.grown {w w' : World} {row : Option Nat} {v : Value} {l : List Int} (h : SlI w v l) (ho : ∀ g, row = some g → Off g v) (hg : w.grownBy w' row) : SlI w' v l := by
  rcases h with h | ⟨a, cap, rfl, h⟩
  · exact .inl h
  · refine .inr ⟨a, cap, rfl, fun hl => ?_⟩
    obtain ⟨h1, h2, h3⟩ := h hl
    refine ⟨h1, Nat.lt_of_lt_of_le h2 hg.size, fun i x hi => ?_⟩
    have hb : w'.heap[a.block]? = w.heap[a.block]? := hg.block _ h2 fun e => ho _ e.symm a _ _ rfl rfl
    exact (show w'.cell? ⟨a.block, a.off + i, none⟩ = w.cell? ⟨a.block, a.off + i, none⟩ from World.cell?_of_block (w := w) hb).trans (h3 i x hi)
theorem SlI.blk {w : World} {v : Value} {l : List Int} (h : SlI w v l) (hl : l ≠ []) : ∀ (a : Addr) (n c : Nat), v = .slice (some a) n c → a.block < w.heap.size := fun a n c e => by
  rcases h with ⟨h1, h2⟩ | ⟨a', cap, rfl, h⟩
  · exact absurd h2 hl
  · injection e with e1
    injection e1 with e1
    rw [← e1]
    exact (h hl).2.1
theorem run_append_ll (w : World) (ty : TypeId) (B Bn : Nat) (v u : Value) (S R : List (List Int)) (hv : LLR w B v S) (hu : LLR w Bn u R) (hB : B ≤ Bn) (hold : ∀ g, v.ownBlock = some g → g < Bn) (hR : R ≠ []) (hn : S.length + R.length ≤ 100000) (hBs : B ≤ w.heap.size) :
    ∃ A2 c2 w', (Builtin.append_ #[48, 48] ty #[v, u]).run Tryz.prog w = .ok (.slice A2 (S.length + R.length) c2) w' ∧ LLR w' B (.slice A2 (S.length + R.length) c2) (S ++ R) ∧ w.grownBy w' v.ownBlock := by
  obtain ⟨j0, hj, hy0, hy1, hy2⟩ := info_parts (P := Tryz.prog) (e := 23) (z := .slice none 0 0) (size := 1) (bytes := 24) (by kernel_rfl)
  have hvs := hv.sl
  obtain ⟨vals, h1, h2, h3⟩ := hv
  rcases hu.form with ⟨-, h⟩ | ⟨gu, cu, rfl, hBu, hgu, news, hnl, hcell, hnew⟩
  · exact absurd h hR
  have h1c : ∀ x ∈ news, x.oneCell' = true := fun x hx => by
    obtain ⟨i, hi⟩ := List.mem_iff_getElem?.1 hx
    obtain ⟨y, hy⟩ : ∃ y, R[i]? = some y := ⟨_, List.getElem?_eq_getElem (by have := (List.getElem?_eq_some_iff.1 hi).1; omega)⟩
    obtain ⟨-, u', h4, h5, -, -⟩ := hnew i y hy
    obtain rfl := Option.some.inj (hi.symm.trans h4)
    obtain ⟨A', c', rfl⟩ := h5.form
    rfl
  obtain ⟨v', w', hr, g2, g3, g4, g5⟩ := run_append_own_at (P := Tryz.prog) w B 48 ty 23 j0 _ 1 24 Tryz.underlying48 hj hy0 hy1 hy2 rfl (by decide) v S.length vals h1 ⟨gu, 0, none⟩ R.length cu news (by omega) (fun j x hj => by rw [addr_add0, Nat.zero_add]; exact hcell j x hj) h1c (by unfold maxLen; omega) (by omega) hBs
  have hform : ∃ g2 c2, v' = .slice (some ⟨g2, 0, none⟩) (S.length + R.length) c2 := by
    rcases g2.2 with ⟨e1, e2⟩ | ⟨g, cap, cur, e, -⟩
    · have := List.length_pos_iff.2 hR
      omega
    · exact ⟨g, cap, e⟩
  obtain ⟨g', c2, rfl⟩ := hform
  refine ⟨_, c2, w', hr, ⟨vals ++ news, by rw [List.length_append]; exact g2, by simp [h2, hnl], fun i x hi => ?_⟩, g3⟩
  rcases Nat.lt_or_ge i S.length with hlt | hge
  · rw [List.getElem?_append_left hlt] at hi
    obtain ⟨hx, u', h4, h5, h6, h7⟩ := h3 i x hi
    refine ⟨hx, u', by rw [List.getElem?_append_left (by omega)]; exact h4, h5.grown h6 g3, fun g e => ?_, h7⟩
    rcases g5 with e5 | e5
    · exact h6 g (e5.symm.trans e)
    · intro a n c e2 e3
      have e6 := h5.blk hx a n c e2
      rw [e] at e5
      injection e5 with e5
      omega
  · rw [List.getElem?_append_right hge] at hi
    obtain ⟨hx, u', h4, h5, h6, h7⟩ := hnew (i - S.length) x hi
    refine ⟨hx, u', by rw [List.getElem?_append_right (by omega), h2]; exact h4, h5.grown (fun g e a n c e2 e3 => ?_) g3, fun g e => ?_, fun a n c e => Nat.le_trans hB (h7 a n c e)⟩
    · have := h7 a n c e2
      have := hold g e
      omega
    · intro a n c e2 e3
      have e6 := h5.blk hx a n c e2
      have e7 := h7 a n c e2
      rcases g5 with e5 | e5
      · have := hold g (e5.symm.trans e)
        omega
      · rw [e] at e5
        injection e5 with e5
        omega
theorem ordP_pos {n : Nat} : ∀ (f : Nat) (b : List Nat), b.Nodup → b.length + f = n → (∀ i ∈ b, i < n) → ordP n f b ≠ []
  | 0, b, _, _, _ => by simp [ordP]
  | f + 1, b, hb, hf, hl => by
    have hex : ∃ i, i < n ∧ i ∉ b := Classical.byContradiction fun h => by
      have := lenN (l := List.range n) (m := b) List.nodup_range fun x hx => Classical.byContradiction fun h2 => h ⟨x, List.mem_range.1 hx, h2⟩
      rw [List.length_range] at this
      omega
    obtain ⟨i, hi, hib⟩ := hex
    have ih := ordP_pos (n := n) f (b ++ [i]) (by
      rw [List.nodup_append]
      exact ⟨hb, by simp, fun x hx y hy => by obtain rfl : y = i := by simpa using hy
                                              intro e
                                              exact hib (e ▸ hx)⟩) (by rw [List.length_append, List.length_singleton]; omega) (fun k hk => by
      rcases List.mem_append.1 hk with h | h
      · exact hl k h
      · obtain rfl : k = i := by simpa using h
        exact hi)
    intro e
    obtain ⟨p, hp⟩ := List.exists_mem_of_ne_nil _ ih
    have : p ∈ ordP n (f + 1) b := by
      simp only [ordP, List.mem_flatMap, List.mem_range]
      exact ⟨i, hi, by rw [if_neg hib]; exact hp⟩
    rw [e] at this
    simp at this
/-- The orders that begin with some, and go on with one of the first k. -/
def ordK (n f : Nat) (b : List Nat) (k : Nat) : List (List Nat) := (List.range k).flatMap fun i => if i ∈ b then [] else ordP n f (b ++ [i])
theorem ordK_succ (n f : Nat) (b : List Nat) (k : Nat) : ordK n f b (k + 1) = ordK n f b k ++ (if k ∈ b then [] else ordP n f (b ++ [k])) := by
  unfold ordK
  rw [List.range_succ, List.flatMap_append]
  simp
theorem ordP_len (n : Nat) (hn : n ≤ 5) : ∀ (f : Nat) (b : List Nat), (ordP n f b).length ≤ 5 ^ f
  | 0, b => by simp [ordP]
  | f + 1, b => by
    have key : ∀ k, (ordK n f b k).length ≤ k * 5 ^ f := fun k => by
      induction k with
      | zero => simp [ordK]
      | succ k ih =>
        rw [ordK_succ, List.length_append, Nat.succ_mul]
        have : (if k ∈ b then [] else ordP n f (b ++ [k])).length ≤ 5 ^ f := by
          split
          · exact Nat.zero_le _
          · exact ordP_len n hn f _
        omega
    have := key n
    have h2 : n * 5 ^ f ≤ 5 * 5 ^ f := Nat.mul_le_mul_right _ hn
    rw [Nat.pow_succ, Nat.mul_comm]
    exact Nat.le_trans this h2
theorem ordK_len (n : Nat) (hn : n ≤ 5) (f : Nat) (hf : f ≤ 4) (b : List Nat) (k : Nat) (hk : k ≤ n) : (ordK n f b k).length ≤ 3125 := by
  have key : ∀ k, (ordK n f b k).length ≤ k * 5 ^ f := fun k => by
    induction k with
    | zero => simp [ordK]
    | succ k ih =>
      rw [ordK_succ, List.length_append, Nat.succ_mul]
      have : (if k ∈ b then [] else ordP n f (b ++ [k])).length ≤ 5 ^ f := by
        split
        · exact Nat.zero_le _
        · exact ordP_len n hn f _
      omega
  have h1 := key k
  have h2 : k * 5 ^ f ≤ 5 * 5 ^ f := Nat.mul_le_mul_right _ (by omega)
  have h3 : 5 ^ f ≤ 5 ^ 4 := Nat.pow_le_pow_right (by omega) hf
  have h4 : (5 : Nat) ^ 4 = 625 := by decide
  omega
theorem ords_small {n f : Nat} (hn : n ≤ 5) (hf : f ≤ 4) (b : List Nat) {k : Nat} (hk : k < n) : ((ordK n f b k).map ints).length + ((ordP n f (b ++ [k])).map ints).length ≤ 100000 := by
  rw [List.length_map, List.length_map]
  have h1 := ordK_len n hn f hf b k (by omega)
  have h2 := ordP_len n hn f (b ++ [k])
  have h3 : 5 ^ f ≤ 625 := Nat.pow_le_pow_right (n := 5) (by omega) hf
  generalize 5 ^ f = x at h2 h3
  omega
/-- What is found by looking for a number among the first q of a list. -/
def thereK (b : List Nat) (i q : Nat) : Bool := decide (i ∈ b.take q)
theorem thereK_succ {b : List Nat} {i q x : Nat} (h : b[q]? = some x) : thereK b i (q + 1) = (thereK b i q || decide (x = i)) := by
  unfold thereK
  rw [List.take_add_one, h]
  simp only [Option.toList_some, List.mem_append, List.mem_singleton]
  by_cases h2 : x = i
  · subst h2
    simp
  · have h3 : ¬ i = x := fun e => h2 e.symm
    by_cases h1 : i ∈ b.take q <;> simp [h1, h2, h3]
def OrdsOk (n f : Nat) : Prop := ∀ (b : List Nat) (v : Value) (B0 : Nat) (w : World), SlI w v (ints b) → (b = [] → v = .slice none 0 0) → b.Nodup → b.length + f = n → (∀ i ∈ b, i < n) → B0 ≤ w.heap.size → (∀ (a : Addr) (m c : Nat), v = .slice (some a) m c → B0 ≤ a.block) →
  Calls Tryz.prog 84 #[.int .i64 n, v] w fun e w' => (∃ u, e = .returned u ∧ LLR w' B0 u ((ordP n f b).map ints)) ∧ Below w.heap.size w w'
theorem ords_0 (n : Nat) (hn : 0 < n) : OrdsOk n 0 := fun b v B0 w hv _ _ hl _ hB hvb => by
  obtain ⟨A, c, rfl⟩ := hv.form
  have hbl : (ints b).length = n := by rw [ints_len]; omega
  have hne : ints b ≠ [] := fun e => by rw [e] at hbl; simp at hbl; omega
  rw [hbl] at hv hvb ⊢
  have hlt := hv.blk hne
  obtain ⟨W, hW⟩ : ∃ W, W = w.alloc (.cells #[.slice A n c] 23) := ⟨_, rfl⟩
  have hBw : Below w.heap.size w W := by subst hW; exact (Below.refl _ _).alloc (Nat.le_refl _) _
  have hres : LLR W B0 (.slice (some ⟨w.heap.size, 0, none⟩) 1 1) [ints b] := by
    refine ⟨[.slice A n c], ?_, rfl, fun i x hi => ?_⟩
    · subst hW
      exact World.ownsRow_lit w #[.slice A n c] 1 hB (by unfold maxLen; omega) rfl
    · match i, hi with
      | 0, hi =>
        obtain rfl : ints b = x := by simpa using hi
        exact ⟨hne, _, rfl, hv.below hBw, fun g e a m c' e2 e3 => by
          have h1 := hlt a m c' e2
          have : w.heap.size = g := by simpa [Value.ownBlock] using e
          omega, hvb⟩
      | i + 1, hi => simp at hi
  have HR := Lib.hid (And.intro hres hBw)
  have HW := Lib.hid hW
  clear hres hBw hW hlt hvb hv
  go_enter Tryz.func84, Tryz.ntmps84
  go_wp2_with fail
  rw [← HW.out]
  go_ret
  exact ⟨⟨_, rfl, HR.out.1⟩, HR.out.2⟩
theorem ords_nil (n f : Nat) (hn : n ≤ 5) (hf : f ≤ 4) (ih : OrdsOk n f) (hl : f + 1 = n) (B0 : Nat) (w : World) (hB : B0 ≤ w.heap.size) :
    Calls Tryz.prog 84 #[.int .i64 n, .slice none 0 0] w fun e w' => (∃ u, e = .returned u ∧ LLR w' B0 u ((ordP n (f + 1) []).map ints)) ∧ Below w.heap.size w w' := by
  have hne : ((0 : Int) == (n : Int)) = false := by simp; omega
  have HL := Lib.hid hl
  have HVB := Lib.hid hB
  have hX := Below.refl w.heap.size w
  have hK0 : LLR w w.heap.size (.slice none 0 0) ((ordK n f [] 0).map ints) := LLR.nil _ _
  clear hl hB
  go_enter Tryz.func84, Tryz.ntmps84
  go_wp2_with fail
  go_loopw [5, 6] (fun u i wr => ∃ k : Nat, k ≤ n ∧ i = .int .i64 k ∧ LLR wr w.heap.size u ((ordK n f [] k).map ints) ∧ Below w.heap.size w wr) (fun _ i _ => n - (intOf i).toNat)
  case atStart => exact ⟨0, Nat.zero_le _, rfl, hK0, hX⟩
  case round =>
    clear hK0 hX
    obtain ⟨k, hk, rfl, hK, hX⟩ := hrel
    rename World => w3
    rcases Nat.lt_or_eq_of_le hk with hkn | rfl
    · have HK := Lib.hid (show k + 1 ≤ n from hkn)
      have HM := Lib.hid (show n - (k + 1) < n - k by omega)
      have HWK := Lib.hid (wrapsV (show k < 1048576 by omega))
      have HLL := Lib.hid hK
      have hki : (k : Int) < n := by omega
      clear hK
      go_wp2_with fail
      go_loopw [7, 8] (fun t i wr => i = .int .i64 0 ∧ t = .bool false ∧ wr = w3) (fun _ _ _ => 0)
      case atStart => exact ⟨rfl, rfl, rfl⟩
      case round =>
        obtain ⟨rfl, rfl, hwe⟩ := hrel
        obtain rfl : w3 = wr := hwe.symm
        have hsu := ordK_succ n f [] k
        rw [if_neg (by simp)] at hsu
        have HSU := Lib.hid hsu
        clear hsu
        obtain ⟨W1, hW1⟩ : ∃ W1, W1 = w3.alloc (.cells #[] 3) := ⟨_, rfl⟩
        have hB1 : Below w3.heap.size w3 W1 := by subst hW1; exact (Below.refl _ _).alloc (Nat.le_refl _) _
        have ho1 : OwnI 3 W1 w3.heap.size (.slice (some ⟨w3.heap.size, 0, none⟩) 0 0) [] := by subst hW1; exact World.ownsRow_lit w3 #[] 0 (Nat.le_refl _) (Nat.zero_le _) rfl
        have HW1 := Lib.hid hW1
        clear hW1
        have ho2 := ho1
        have hB2 := hB1
        have hlen : ([] ++ [k] : List Nat).length + f = n := by have := HL.out; simp; omega
        have hsm : ([] : List Nat).length + [(k : Int)].length ≤ 100000 := by simp
        obtain ⟨W3, hW3⟩ : ∃ W3, W3 = W1.alloc (.cells #[.int .i64 k] 3) := ⟨_, rfl⟩
        have hB23 : Below W1.heap.size W1 W3 := by subst hW3; exact (Below.refl _ _).alloc (Nat.le_refl _) _
        have hrow3 : RowK W3 3 W1.heap.size [.int .i64 k] := by subst hW3; exact heap_alloc_new W1 _
        have hIK : IAt W3 W1.heap.size 0 [(k : Int)] := fun q x hi => by
          match q, hi with
          | 0, hi =>
            obtain rfl : (k : Int) = x := by simpa using hi
            exact hrow3.cell (by rfl)
          | q + 1, hi => simp at hi
        have hB3 := hB2.trans (hB23.mono hB2.size)
        have ho3 := ho2.keep hB23
        obtain ⟨A4, c4, W4, hap4, hown4, hg4, -, -⟩ := run_append_ints W3 23 w3.heap.size (.slice (some ⟨w3.heap.size, 0, none⟩) 0 0) (ints []) [(k : Int)] ho3 W1.heap.size 0 1 hIK (by simp) (by rw [ints_len]; exact hsm) hB3.size
        have hB4 : Below w3.heap.size w3 W4 := hB3.grown hg4 hB3.size (fun g e => by have := (ho3.lt g e).1; omega)
        rw [ints_len, List.length_singleton] at hap4 hown4
        rw [ints_snoc] at hown4
        simp only [List.length_nil, Nat.zero_add] at hap4 hown4
        have hx4 : (Builtin.append_ #[23, 23] 23 #[.slice (some ⟨w3.heap.size, 0, none⟩) 0 0, .slice (some ⟨W1.heap.size, 0, none⟩) 1 1]).run Tryz.prog W3 = .ok (.slice (some ⟨w3.heap.size + 1 + 1, 0, none⟩) 1 ((Question.appendCap 1 0 3).cut (w3.tape w3.drawn (Question.appendCap 1 0 3)))) (((w3.alloc (.cells #[] 3)).alloc (.cells #[.int .i64 k] 3)).alloc (.cells (#[.int .i64 k] ++ Builtin.zeroCells #[.int .i64 0] (((Question.appendCap 1 0 3).cut (w3.tape w3.drawn (Question.appendCap 1 0 3))) - 1)) 3)).drew := by
          obtain ⟨jI, hjI, hI0, hI1, hI2⟩ := info_parts (P := Tryz.prog) (e := 3) (z := .int .i64 0) (size := 1) (bytes := 8) (by kernel_rfl)
          have h := run_append_grow (P := Tryz.prog) W3 23 23 3 jI _ Tryz.underlying23 hjI hI0 ⟨w3.heap.size, 0, none⟩ 0 0 [] (by simp) (fun j v hj => by simp at hj) ⟨W1.heap.size, 0, none⟩ 1 1 [.int .i64 k] (by rw [hI1]; rfl) (fun j v hj => by
            rw [addr_add0]
            match j, hj with
            | 0, hj =>
              obtain rfl : Value.int .i64 (k : Int) = v := by simpa using hj
              exact hrow3.cell (by rfl)
            | j + 1, hj => simp at hj) (by omega) (by omega) (by rw [hI2]; exact growslice_fits (by omega) (by omega))
          have hsz : W3.heap.size = w3.heap.size + 1 + 1 := by rw [hW3, HW1.out]; simp
          rw [h, hsz, hW3, HW1.out]
          rfl
        have e4 := hap4.symm.trans hx4
        injection e4 with e41 e42
        injection e41 with e43 _ e44
        subst e43 e44
        have HE42 := Lib.hid e42
        clear hx4 e42
        have HAP4 := Lib.hid hap4
        have HW3 := Lib.hid hW3
        have hlt4 := hown4.lt
        have hndk : ([] ++ [k]).Nodup := by
          rw [List.nodup_append]
          exact ⟨by simp, by simp, fun x hx => by simp at hx⟩
        have hltk : ∀ i ∈ [] ++ [k], i < n := fun i hi => by
          rcases List.mem_append.1 hi with h | h
          · simp at h
          · obtain rfl : i = k := by simpa using h
            exact hkn
        have kI := ih ([] ++ [k]) _ w3.heap.size W4 hown4.sl (fun e => by simp at e) hndk hlen hltk hB4.size (fun a m c' e => (hlt4 a.block (by rw [e]; rfl)).1)
        have HPOS : RowKit.Hid ((ordP n f ([] ++ [k])).map ints ≠ []) := Lib.hid fun e => ordP_pos (n := n) f ([] ++ [k]) hndk hlen hltk (List.map_eq_nil_iff.1 e)
        have HSM : RowKit.Hid (((ordK n f [] k).map ints).length + ((ordP n f ([] ++ [k])).map ints).length ≤ 100000) := Lib.hid (ords_small hn hf [] hkn)
        have HAPP : RowKit.Hid ((ordK n f [] k).map ints ++ (ordP n f ([] ++ [k])).map ints = (ordK n f [] (k + 1)).map ints) := Lib.hid (by rw [← List.map_append, ← HSU.out])
        obtain ⟨SK, hSK⟩ : ∃ SK, SK = (ordK n f [] k).map ints := ⟨_, rfl⟩
        obtain ⟨SR, hSR⟩ : ∃ SR, SR = (ordP n f ([] ++ [k])).map ints := ⟨_, rfl⟩
        rw [← hSR] at kI HPOS HSM HAPP
        rw [← hSK] at HSM HAPP
        have HLL2 : RowKit.Hid (LLR w3 w.heap.size u5 SK) := Lib.hid (by rw [hSK]; exact HLL.out)
        clear hndk hltk hSK hSR
        have HB4 := Lib.hid hB4
        clear hsm hlen hap4 hW3 hg4 hown4 hlt4 hIK hrow3 ho3 ho2 ho1 hB1 hB2 hB23 hB3 hB4
        go_wp2_with fail
        rw [← HE42.out]
        refine kI.mono ?_
        rintro e w6 ⟨⟨ur, rfl, hur⟩, hB6⟩
        have hB36 : Below w3.heap.size w3 w6 := HB4.out.trans (hB6.mono HB4.out.size)
        have hSl := HLL2.out.below hB36
        have hX6 := hX.trans (hB36.mono hX.size)
        obtain ⟨A7, c7, w7, hap7, hLL7, hg7⟩ := run_append_ll w6 48 w.heap.size w3.heap.size u5 ur SK SR hSl hur hX.size (fun g e => (HLL2.out.lt g e).2) HPOS.out HSM.out hX6.size
        rw [HAPP.out] at hLL7
        have hX7 : Below w.heap.size w w7 := hX6.grown hg7 hX6.size (fun g e => (HLL2.out.lt g e).1)
        have HR := Lib.hid (And.intro hLL7 hX7)
        have HAP7 := Lib.hid hap7
        obtain ⟨wk1, wk2⟩ := HWK.out
        clear hap7 hLL7 hX7 hg7 hX6 hSl hB36 hB6 hur kI
        go_wp2_with (at_builtin; refine Lib.wpList_append_run _ rfl _ _ _ _ rfl _ _ rfl rfl _ _ HAP7.out ?_)
        go_roundw
        case rel => exact ⟨k + 1, HK.out, by simp, HR.out.1, HR.out.2⟩
        case measure => exact HM.out
    · have HE : RowKit.Hid (LLR w3 B0 u5 ((ordP k (f + 1) []).map ints)) := Lib.hid (hK.lower HVB.out)
      clear hK
      go_wp2_with fail
      go_ret
      exact ⟨⟨_, rfl, HE.out⟩, hX⟩
theorem ords_cons (n f : Nat) (hn : n ≤ 5) (hf : f ≤ 4) (ih : OrdsOk n f) (b : List Nat) (v : Value) (B0 : Nat) (w : World) (hv : SlI w v (ints b)) (hb0 : b ≠ []) (hnd : b.Nodup) (hl : b.length + (f + 1) = n) (hlt : ∀ i ∈ b, i < n) (hB : B0 ≤ w.heap.size) (hvb : ∀ (a : Addr) (m c : Nat), v = .slice (some a) m c → B0 ≤ a.block) :
    Calls Tryz.prog 84 #[.int .i64 n, v] w fun e w' => (∃ u, e = .returned u ∧ LLR w' B0 u ((ordP n (f + 1) b).map ints)) ∧ Below w.heap.size w w' := by
  obtain ⟨A, c, rfl⟩ := hv.form
  have hbl : (ints b).length = b.length := ints_len b
  rw [hbl] at hv ⊢
  have hne : ((b.length : Int) == (n : Int)) = false := by simp; omega
  have HV := Lib.hid hv
  have HNIL := Lib.hid hb0
  have HND := Lib.hid hnd
  have HL := Lib.hid hl
  have HLT := Lib.hid hlt
  have HBL := Lib.hid hbl
  have HVB := Lib.hid (And.intro hB hvb)
  have hb4 : b.length ≤ 4 := by omega
  have hX := Below.refl w.heap.size w
  have hK0 : LLR w w.heap.size (.slice none 0 0) ((ordK n f b 0).map ints) := LLR.nil _ _
  clear hv hb0 hnd hl hlt hbl hB hvb
  go_enter Tryz.func84, Tryz.ntmps84
  go_wp2_with fail
  go_loopw [5, 6] (fun u i wr => ∃ k : Nat, k ≤ n ∧ i = .int .i64 k ∧ LLR wr w.heap.size u ((ordK n f b k).map ints) ∧ Below w.heap.size w wr) (fun _ i _ => n - (intOf i).toNat)
  case atStart => exact ⟨0, Nat.zero_le _, rfl, hK0, hX⟩
  case round =>
    clear hK0 hX
    obtain ⟨k, hk, rfl, hK, hX⟩ := hrel
    rename World => w3
    rcases Nat.lt_or_eq_of_le hk with hkn | rfl
    · have HK := Lib.hid (show k + 1 ≤ n from hkn)
      have HM := Lib.hid (show n - (k + 1) < n - k by omega)
      have HWK := Lib.hid (wrapsV (show k < 1048576 by omega))
      have HLL := Lib.hid hK
      have hki : (k : Int) < n := by omega
      clear hK
      go_wp2_with fail
      go_loopw [7, 8] (fun t i wr => ∃ q : Nat, q ≤ b.length ∧ i = .int .i64 q ∧ t = .bool (thereK b k q) ∧ wr = w3) (fun _ i _ => b.length - (intOf i).toNat)
      case atStart => exact ⟨0, Nat.zero_le _, rfl, by simp [thereK], rfl⟩
      case round =>
        obtain ⟨q, hq, rfl, rfl, hwe⟩ := hrel
        obtain rfl : w3 = wr := hwe.symm
        rcases Nat.lt_or_eq_of_le hq with hqn | rfl
        · obtain ⟨ba, oa, x, rfl, -, hba, hx, rx⟩ := (HV.out.below hX).cells (k := q) (by rw [HBL.out]; exact hqn)
          obtain ⟨y, hy, rfl⟩ := ints_get hx
          have hts := thereK_succ (i := k) hy
          have HTS := Lib.hid hts
          have HQK := Lib.hid (show q + 1 ≤ b.length from hqn)
          have HQM := Lib.hid (show b.length - (q + 1) < b.length - q by omega)
          obtain ⟨wq1, wq2⟩ := wrapsV (show q < 1048576 by omega)
          have hq0 : (0 : Int) ≤ q := by omega
          have hq1 : (q : Int) < b.length := by omega
          obtain ⟨t, ht⟩ : ∃ t, t = thereK b k q := ⟨_, rfl⟩
          have HT := Lib.hid ht
          rw [← ht]
          clear hx hy hts ht
          cases t with
          | true =>
            go_wp2_with fail
            go_roundw
            case rel => exact ⟨q + 1, HQK.out, by simp, by rw [HTS.out, ← HT.out]; rfl, by first | trivial | rfl⟩
            case measure => exact HQM.out
          | false =>
            by_cases he : y = k
            · subst he
              go_wp2_with fail
              go_roundw
              case rel => exact ⟨q + 1, HQK.out, by simp, by rw [HTS.out, ← HT.out]; simp, by first | trivial | rfl⟩
              case measure => exact HQM.out
            · have hyk : ((y : Int) == (k : Int)) = false := by simp; omega
              have hyn : (y == k) = false := by simpa using he
              have HNE := Lib.hid he
              clear he
              go_wp2_with fail
              go_roundw
              case rel => exact ⟨q + 1, HQK.out, by simp, by rw [HTS.out, ← HT.out]; simp [HNE.out], by first | trivial | rfl⟩
              case measure => exact HQM.out
        · have hth : thereK b k b.length = decide (k ∈ b) := by unfold thereK; rw [List.take_length]
          rw [hth]
          clear hth
          have hsu := ordK_succ n f b k
          by_cases hm : k ∈ b
          · have hd : decide (k ∈ b) = true := decide_eq_true hm
            rw [if_pos hm, List.append_nil] at hsu
            rw [hd]
            have HSU := Lib.hid hsu
            obtain ⟨wk1, wk2⟩ := HWK.out
            clear hsu hm hd
            go_wp2_with fail
            go_roundw
            case rel => exact ⟨k + 1, HK.out, by simp, by rw [HSU.out]; exact HLL.out, hX⟩
            case measure => exact HM.out
          · have hd : decide (k ∈ b) = false := decide_eq_false hm
            rw [if_neg hm] at hsu
            rw [hd]
            have HSU := Lib.hid hsu
            have HMEM := Lib.hid hm
            clear hsu hm hd
            obtain ⟨W1, hW1⟩ : ∃ W1, W1 = w3.alloc (.cells #[] 3) := ⟨_, rfl⟩
            have hB1 : Below w3.heap.size w3 W1 := by subst hW1; exact (Below.refl _ _).alloc (Nat.le_refl _) _
            have ho1 : OwnI 3 W1 w3.heap.size (.slice (some ⟨w3.heap.size, 0, none⟩) 0 0) [] := by subst hW1; exact World.ownsRow_lit w3 #[] 0 (Nat.le_refl _) (Nat.zero_le _) rfl
            have HW1 := Lib.hid hW1
            clear hW1
            have hne2 : ints b ≠ [] := fun e => HNIL.out (by unfold ints at e; exact List.map_eq_nil_iff.1 e)
            obtain ⟨ba, oa, rfl, hba, hat⟩ := (HV.out.below hX).addr (by rw [HBL.out]; exact List.length_pos_iff.2 HNIL.out)
            obtain ⟨A2, c2, W2, hap, hown, hg, -, -⟩ := run_append_ints W1 23 w3.heap.size _ [] (ints b) ho1 ba oa c (hat.below hB1 hba) hne2 (by rw [HBL.out]; show 0 + b.length ≤ 100000; omega) hB1.size
            have hB2 : Below w3.heap.size w3 W2 := hB1.grown hg hB1.size (fun g e => by have := (ho1.lt g e).1; omega)
            simp only [List.length_nil, Nat.zero_add, List.nil_append] at hap hown
            rw [HBL.out] at hap hown
            have ho2 := hown
            have hlen : (b ++ [k]).length + f = n := by rw [List.length_append, List.length_singleton]; have := HL.out; omega
            have hsm : b.length + [(k : Int)].length ≤ 100000 := by show b.length + 1 ≤ 100000; omega
            have HAP1 := Lib.hid hap
            clear hap hg hown hat hne2
            obtain ⟨W3, hW3⟩ : ∃ W3, W3 = W2.alloc (.cells #[.int .i64 k] 3) := ⟨_, rfl⟩
            have hB23 : Below W2.heap.size W2 W3 := by subst hW3; exact (Below.refl _ _).alloc (Nat.le_refl _) _
            have hrow3 : RowK W3 3 W2.heap.size [.int .i64 k] := by subst hW3; exact heap_alloc_new W2 _
            have hIK : IAt W3 W2.heap.size 0 [(k : Int)] := fun q x hi => by
              match q, hi with
              | 0, hi =>
                obtain rfl : (k : Int) = x := by simpa using hi
                exact hrow3.cell (by rfl)
              | q + 1, hi => simp at hi
            have hB3 := hB2.trans (hB23.mono hB2.size)
            have ho3 := ho2.keep hB23
            obtain ⟨A4, c4, W4, hap4, hown4, hg4, -, -⟩ := run_append_ints W3 23 w3.heap.size (.slice A2 b.length c2) (ints b) [(k : Int)] ho3 W2.heap.size 0 1 hIK (by simp) (by rw [ints_len]; exact hsm) hB3.size
            have hB4 : Below w3.heap.size w3 W4 := hB3.grown hg4 hB3.size (fun g e => by have := (ho3.lt g e).1; omega)
            rw [ints_len, List.length_singleton] at hap4 hown4
            rw [ints_snoc] at hown4
            have HAP4 := Lib.hid hap4
            have HW3 := Lib.hid hW3
            have hlt4 := hown4.lt
            have hndk : (b ++ [k]).Nodup := by
              rw [List.nodup_append]
              exact ⟨HND.out, by simp, fun x hx y hy => by
                obtain rfl : y = k := by simpa using hy
                intro e
                exact HMEM.out (e ▸ hx)⟩
            have hltk : ∀ i ∈ b ++ [k], i < n := fun i hi => by
              rcases List.mem_append.1 hi with h | h
              · exact HLT.out i h
              · obtain rfl : i = k := by simpa using h
                exact hkn
            have kI := ih (b ++ [k]) _ w3.heap.size W4 hown4.sl (fun e => by simp at e) hndk hlen hltk hB4.size (fun a m c' e => (hlt4 a.block (by rw [e]; rfl)).1)
            have HPOS : RowKit.Hid ((ordP n f (b ++ [k])).map ints ≠ []) := Lib.hid fun e => ordP_pos (n := n) f (b ++ [k]) hndk hlen hltk (List.map_eq_nil_iff.1 e)
            have HSM : RowKit.Hid (((ordK n f b k).map ints).length + ((ordP n f (b ++ [k])).map ints).length ≤ 100000) := Lib.hid (ords_small hn hf b hkn)
            have HAPP : RowKit.Hid ((ordK n f b k).map ints ++ (ordP n f (b ++ [k])).map ints = (ordK n f b (k + 1)).map ints) := Lib.hid (by rw [← List.map_append, ← HSU.out])
            obtain ⟨SK, hSK⟩ : ∃ SK, SK = (ordK n f b k).map ints := ⟨_, rfl⟩
            obtain ⟨SR, hSR⟩ : ∃ SR, SR = (ordP n f (b ++ [k])).map ints := ⟨_, rfl⟩
            rw [← hSR] at kI HPOS HSM HAPP
            rw [← hSK] at HSM HAPP
            have HLL2 : RowKit.Hid (LLR w3 w.heap.size u5 SK) := Lib.hid (by rw [hSK]; exact HLL.out)
            clear hndk hltk hSK hSR
            have HB4 := Lib.hid hB4
            clear hsm hlen hap4 hW3 hg4 hown4 hlt4 hIK hrow3 ho3 ho2 ho1 hB1 hB2 hB23 hB3 hB4
            go_wp2_with (first | (at_builtin; rw [← HW1.out]; refine Lib.wpList_append_run _ rfl _ _ _ _ rfl _ _ rfl rfl _ _ HAP1.out ?_) | (at_builtin; rw [← HW3.out]; refine Lib.wpList_append_run _ rfl _ _ _ _ rfl _ _ rfl rfl _ _ HAP4.out ?_))
            refine kI.mono ?_
            rintro e w6 ⟨⟨ur, rfl, hur⟩, hB6⟩
            have hB36 : Below w3.heap.size w3 w6 := HB4.out.trans (hB6.mono HB4.out.size)
            have hSl := HLL2.out.below hB36
            have hX6 := hX.trans (hB36.mono hX.size)
            obtain ⟨A7, c7, w7, hap7, hLL7, hg7⟩ := run_append_ll w6 48 w.heap.size w3.heap.size u5 ur SK SR hSl hur hX.size (fun g e => (HLL2.out.lt g e).2) HPOS.out HSM.out hX6.size
            rw [HAPP.out] at hLL7
            have hX7 : Below w.heap.size w w7 := hX6.grown hg7 hX6.size (fun g e => (HLL2.out.lt g e).1)
            have HR := Lib.hid (And.intro hLL7 hX7)
            have HAP7 := Lib.hid hap7
            obtain ⟨wk1, wk2⟩ := HWK.out
            clear hap7 hLL7 hX7 hg7 hX6 hSl hB36 hB6 hur kI
            go_wp2_with (at_builtin; refine Lib.wpList_append_run _ rfl _ _ _ _ rfl _ _ rfl rfl _ _ HAP7.out ?_)
            go_roundw
            case rel => exact ⟨k + 1, HK.out, by simp, HR.out.1, HR.out.2⟩
            case measure => exact HM.out
    · have HE : RowKit.Hid (LLR w3 B0 u5 ((ordP k (f + 1) b).map ints)) := Lib.hid (hK.lower HVB.out.1)
      clear hK
      go_wp2_with fail
      go_ret
      exact ⟨⟨_, rfl, HE.out⟩, hX⟩
theorem ords_succ (n f : Nat) (hn : n ≤ 5) (hf : f ≤ 4) (ih : OrdsOk n f) : OrdsOk n (f + 1) := fun b v B0 w hv hnil hnd hl hlt hB hvb => by
  by_cases hb0 : b = []
  · obtain rfl := hnil hb0
    subst hb0
    exact ords_nil n f hn hf ih (by simpa using hl) B0 w hB
  · exact ords_cons n f hn hf ih b v B0 w hv hb0 hnd hl hlt hB hvb
theorem ords_all (n : Nat) (hn : n ≤ 5) (hp : 0 < n) : ∀ f, f ≤ 5 → OrdsOk n f
  | 0, _ => ords_0 n hp
  | f + 1, h => ords_succ n f hn (by omega) (ords_all n hn hp f (by omega))
theorem refOrders_ok (n : Nat) (hn : n ≤ 5) (hp : 0 < n) (w : World) :
    Calls Tryz.prog 84 #[.int .i64 n, .slice none 0 0] w fun e w' => (∃ u, e = .returned u ∧ SlLL w' u ((ordP n n []).map ints)) ∧ Below w.heap.size w w' :=
  (ords_all n hn hp n hn [] _ w.heap.size w (.inl ⟨rfl, rfl⟩) (fun _ => rfl) (by simp) (by simp) (by simp) (Nat.le_refl _) (fun a m c e => by cases e)).mono fun e w' ⟨⟨u, h1, h2⟩, hB⟩ => ⟨⟨u, h1, h2.sl⟩, hB⟩
end Go.Proofs
