import Derived.Test.YtmgnidodkipohaaSetsOut
section
/- TopWaxSets: pure facts. -/
namespace Go.Proofs
open Go.RowKit
set_option maxHeartbeats 8000000
set_option maxRecDepth 1000000
theorem Up.filter {l : List Cel} (h : Up l) (p : Cel → Bool) : Up (l.filter p) := List.Pairwise.filter p h
theorem chk_filter {l : List Cel} (h : chkI l = 0) (p : Cel → Bool) : chkI (l.filter p) = 0 := by
  obtain ⟨h1, h2, h3⟩ := chkI_zero.1 h
  exact chkI_zero.2 ⟨Nat.le_trans (List.length_filter_le ..) h1, fun c hc => h2 c (List.mem_filter.1 hc).1, h3.filter p⟩
theorem asc_up : ∀ {l : List Cel}, Asc l → Up l
  | [], _ => List.Pairwise.nil
  | [_], _ => List.pairwise_singleton _ _
  | x :: y :: l, h => by
    have hu : Up (y :: l) := asc_up fun i a b ha hb => h (i + 1) a b ha hb
    have hxy : ltC x y = true := (cmp3_lt x y).1 (h 0 x y rfl rfl)
    refine List.pairwise_cons.2 ⟨fun z hz => ?_, hu⟩
    rcases List.mem_cons.1 hz with rfl | hz
    · exact hxy
    · exact ltC_tr hxy ((List.pairwise_cons.1 hu).1 z hz)
theorem gate_few {l : List Cel} {n vol : Int} (h : (fewB n vol l && l.all nearB) = true) : (l.length : Int) ≤ n ∧ chkI l = 0 ∧ volB l ≤ vol ∧ ∀ c ∈ l, Near c 100 := by
  rw [Bool.and_eq_true] at h
  obtain ⟨h1, h2⟩ := h
  unfold fewB at h1
  simp only [Bool.and_eq_true, decide_eq_true_eq] at h1
  refine ⟨h1.1, h1.2.1, h1.2.2, fun c hc => ?_⟩
  have := List.all_eq_true.1 h2 c hc
  unfold nearB withinI at this
  have := of_decide_eq_true this
  unfold Near
  split at this <;> split at this <;> split at this <;> omega
theorem gate_all {a b out : List Cel} {n : Int} (h : setsGate a b out n = true) : waxB 20 [a, b, out] = true ∧ a.length + b.length ≠ 0 ∧ withinI n 0 23 = 0 := by
  unfold setsGate at h
  simp only [Bool.and_eq_true, Bool.not_eq_true', decide_eq_false_iff_not, decide_eq_true_eq] at h
  exact ⟨h.1, h.2.1, h.2.2⟩
theorem wax3 {a b out : List Cel} (h : waxB 20 [a, b, out] = true) : (fewB 20 512 a && a.all nearB) = true ∧ (fewB 20 512 b && b.all nearB) = true ∧ (fewB 20 512 out && out.all nearB) = true := by
  unfold waxB at h
  simp only [List.all_cons, List.all_nil, Bool.and_true, Bool.and_eq_true] at h
  simp only [Bool.and_eq_true]
  exact ⟨h.1, h.2.1, h.2.2⟩
theorem bnd_in : ∀ (l : List Cel) (B : Cel × Cel) (c : Cel), (c ∈ l ∨ ((B.1.1 ≤ c.1 ∧ c.1 ≤ B.2.1) ∧ (B.1.2.1 ≤ c.2.1 ∧ c.2.1 ≤ B.2.2.1) ∧ (B.1.2.2 ≤ c.2.2 ∧ c.2.2 ≤ B.2.2.2))) →
    ((l.foldl bndS B).1.1 ≤ c.1 ∧ c.1 ≤ (l.foldl bndS B).2.1) ∧ ((l.foldl bndS B).1.2.1 ≤ c.2.1 ∧ c.2.1 ≤ (l.foldl bndS B).2.2.1) ∧ ((l.foldl bndS B).1.2.2 ≤ c.2.2 ∧ c.2.2 ≤ (l.foldl bndS B).2.2.2)
  | [], _, c, h => by
    rcases h with h | h
    · cases h
    · exact h
  | x :: l, B, c, h => by
    refine bnd_in l (bndS B x) c ?_
    rcases h with h | h
    · rcases List.mem_cons.1 h with rfl | h
      · right
        unfold bndS
        dsimp only
        omega
      · exact .inl h
    · right
      unfold bndS
      dsimp only
      omega
/-- The box of a set with cells. -/
theorem box_facts {u : List Cel} {h : Cel} (hh : u[0]? = some h) (hn : ∀ c ∈ u, Near c 100) (hv : volB u ≤ 512) :
    Near (bndK h u u.length).1 100 ∧ Near (bndK h u u.length).2 100 ∧ Wide (bndK h u u.length) ∧ sizeB (bndK h u u.length) ≤ 512 := by
  cases u with
  | nil => cases hh
  | cons x u =>
    obtain rfl : x = h := by simpa using hh
    have h1 : bndK x (x :: u) (x :: u).length = (x :: u).foldl bndS (x, x) := by unfold bndK; rw [List.take_length]
    have hx := hn x (List.mem_cons_self ..)
    have h2 := bnd_near (b := 100) (x :: u) (x, x) ⟨hx, hx⟩ hn
    have h3 := bnd_in (x :: u) (x, x) x (.inl (List.mem_cons_self ..))
    have hv' : sizeB (bndK x (x :: u) (x :: u).length) ≤ 512 := hv
    rw [h1] at hv' ⊢
    unfold Wide
    exact ⟨h2.1, h2.2, by omega, hv'⟩
theorem chk_box {b : Cel × Cel} (h1 : Near b.1 1000) (h2 : Near b.2 1000) (hw : Wide b) (hs : sizeB b ≤ 4096) : chkI (boxL b) = 0 := by
  refine chkI_zero.2 ⟨?_, fun c hc => ?_, up_boxL b⟩
  · have := len_boxL b hw
    omega
  · have := (mem_boxL b c).1 hc
    unfold Near at *
    omega
theorem de_morgan {all u a b : List Cel} (hu : ∀ c, c ∈ u ↔ c ∈ a ∨ c ∈ b) :
    (all.filter fun c => !decide (c ∈ u)) = (all.filter fun c => !decide (c ∈ a)).filter fun c => decide (c ∈ all.filter fun c => !decide (c ∈ b)) := by
  rw [List.filter_filter]
  refine List.filter_congr fun c hc => ?_
  by_cases h1 : c ∈ a <;> by_cases h2 : c ∈ b <;> simp [hu, h1, h2, hc]
theorem turned {u a b both : List Cel} {f : Cel → Cel} (hu : ∀ c, c ∈ u ↔ c ∈ a ∨ c ∈ b) (hup : Up both) (hm : ∀ c, c ∈ both ↔ c ∈ sortC (a.map f) ∨ c ∈ sortC (b.map f)) (hut : Up (sortC (u.map f))) : both = sortC (u.map f) := by
  refine up_ext hup hut fun x => ?_
  rw [hm, mem_sortC, mem_sortC, mem_sortC, List.mem_map, List.mem_map, List.mem_map]
  constructor
  · rintro (⟨c, hc, rfl⟩ | ⟨c, hc, rfl⟩)
    · exact ⟨c, (hu c).2 (.inl hc), rfl⟩
    · exact ⟨c, (hu c).2 (.inr hc), rfl⟩
  · rintro ⟨c, hc, rfl⟩
    rcases (hu c).1 hc with h | h
    · exact .inl ⟨c, h, rfl⟩
    · exact .inr ⟨c, h, rfl⟩
end Go.Proofs
end

section
/- TopWaxSets: the calls of its sets in one form. -/
namespace Go.Proofs
open Go.RowKit
set_option maxHeartbeats 8000000
set_option maxRecDepth 1000000
/-- A set's slice: what it reads as, and a capacity that Go allows. -/
def St (W : World) (v : Value) (l : List Cel) : Prop := Sl W v l ∧ ∃ (A : Option Addr) (cap : Nat), v = .slice A l.length cap ∧ l.length ≤ cap ∧ cap ≤ 9223372036854775807
theorem St.below {w w' : World} {v : Value} {l : List Cel} (h : St w v l) (hb : Below w.heap.size w w') : St w' v l := ⟨h.1.below hb, h.2⟩
/-- A call gives a set and no error, and keeps what was there. -/
def Gives (W : World) (X : List Cel) (e : Ending) (W' : World) : Prop := ∃ (A : Option Addr) (cap : Nat), e = .returned (.tuple #[.slice A X.length cap, .int .i64 0]) ∧ St W' (.slice A X.length cap) X ∧ Below W.heap.size W W'
theorem St.of_own {w : World} {B : Nat} {v : Value} {l : List Cel} (h : Own w B v l) : St w v l := by
  refine ⟨h.sl, ?_⟩
  rcases h.2 with ⟨rfl, h2⟩ | ⟨g, cap, cur, rfl, _, _, h3, h4, _⟩
  · exact ⟨none, 0, by rw [h2], by omega, by omega⟩
  · unfold maxLen at h4
    exact ⟨_, cap, rfl, h3, by omega⟩
theorem St.of_filled {w : World} {B n : Nat} {l : List Cel} (h : Filled w B n 32 l) (hn : l.length = n) (hl : n ≤ 4096) : St w (.slice (some ⟨B, 0, none⟩) n n) l := by
  subst hn
  exact ⟨Sl.row h.row h.lt, _, _, rfl, Nat.le_refl _, by omega⟩
theorem gives_own {W W' : World} {X : List Cel} {v : Value} (h : Own W' W.heap.size v X) (hB : Below W.heap.size W W') : Gives W X (.returned (.tuple #[v, .int .i64 0])) W' := by
  have hs := St.of_own h
  obtain ⟨A, cap, rfl⟩ := h.sl.form
  exact ⟨A, cap, rfl, hs, hB⟩
theorem unionS {a b : List Cel} {va vb : Value} {w : World} (ha : St w va a) (hb : St w vb b) (ca : chkI a = 0) (cb : chkI b = 0) {U : List Cel} (hU : Up U) (hm : ∀ c, c ∈ U ↔ c ∈ a ∨ c ∈ b) (hl : U.length ≤ 4096) :
    Calls Try.prog 11 #[va, vb] w (Gives w U) := by
  refine (unionG_ok a b va vb w ha.1 hb.1 ca cb).mono ?_
  rintro e w' ⟨B, out, h1, h2, h3, h4, h5, h6⟩
  obtain rfl : out = U := up_ext h4 hU fun x => (h5 x).trans (hm x).symm
  rcases h1 with ⟨_, rfl⟩ | ⟨h, _⟩
  · exact ⟨_, _, rfl, St.of_filled h3 rfl hl, h6⟩
  · omega
theorem cutS {a b : List Cel} {va vb : Value} {w : World} (ha : St w va a) (hb : St w vb b) (ca : chkI a = 0) (cb : chkI b = 0) :
    Calls Try.prog 12 #[va, vb] w (Gives w (a.filter fun c => decide (c ∈ b))) := by
  obtain ⟨h1, A, cap, rfl, h2, h3⟩ := hb
  refine (cut_ok a b va A cap w ha.1 h1 h2 h3 ca cb).mono ?_
  rintro e w' ⟨v, rfl, h4, h5⟩
  exact gives_own h4 h5
theorem lessS {a b : List Cel} {va vb : Value} {w : World} (ha : St w va a) (hb : St w vb b) (ca : chkI a = 0) (cb : chkI b = 0) :
    Calls Try.prog 13 #[va, vb] w (Gives w (a.filter fun c => !decide (c ∈ b))) := by
  obtain ⟨h1, A, cap, rfl, h2, h3⟩ := hb
  refine (less_ok a b va A cap w ha.1 h1 h2 h3 ca cb).mono ?_
  rintro e w' ⟨v, rfl, h4, h5⟩
  exact gives_own h4 h5
theorem blockS (b : Cel × Cel) (h1 : Near b.1 1000) (h2 : Near b.2 1000) (hw : Wide b) (hs : sizeB b ≤ 4096) (w : World) :
    Calls Try.prog 17 #[boxV b] w (Gives w (boxL b)) := by
  refine (block_ok b h1 h2 hw hs w).mono ?_
  rintro e w' ⟨v, rfl, h4, h5⟩
  exact gives_own h4 h5
theorem chkS {a : List Cel} {va : Value} {w : World} (ha : St w va a) (ca : chkI a = 0) :
    Calls Try.prog 14 #[va] w fun e w' => e = .returned (.int .i64 0) ∧ Below w.heap.size w w' := by
  have := refCheckG a va w ha.1 (by have := chk_len ca; unfold maxLen; omega)
  rwa [ca] at this
theorem turn_good {a : List Cel} (ca : chkI a = 0) (hn : ∀ c ∈ a, Near c 100) {k : Nat} (hk : k < 24) : Good (sortC (a.map (turnB k (1, 0, 0)))) 102 := by
  obtain ⟨_, _, hu⟩ := chkI_zero.1 ca
  have hg := up_good hu hn
  have ho : Near (1, 0, 0) 1 := by unfold Near; decide
  exact .sort (nodup_map (turnB_inj hk (1, 0, 0)) hg.nd) (near_map fun c hc => turnB_near (b := 100) (d := 1) (hg.near c hc) ho)
theorem turn_chk {a : List Cel} (ca : chkI a = 0) (hn : ∀ c ∈ a, Near c 100) {k : Nat} (hk : k < 24) : chkI (sortC (a.map (turnB k (1, 0, 0)))) = 0 := by
  have hg := turn_good ca hn hk
  refine chkI_zero.2 ⟨?_, fun c hc => (hg.near c hc).mono (by omega), asc_up hg.asc⟩
  rw [sortC_len, List.length_map]
  exact chk_len ca
theorem turnS {a : List Cel} {va : Value} {w : World} (ha : St w va a) (ca : chkI a = 0) (hn : ∀ c ∈ a, Near c 100) {k : Nat} (hk : k < 24) :
    Calls Try.prog 21 #[va, .int .i64 k, .agg #[.int .i64 1, .int .i64 0, .int .i64 0]] w (Gives w (sortC (a.map (turnB k (1, 0, 0))))) := by
  obtain ⟨hl, _, hu⟩ := chkI_zero.1 ca
  have hg := up_good hu hn
  have ho : Near (1, 0, 0) 1 := by unfold Near; decide
  have hnd := nodup_map (turnB_inj hk (1, 0, 0)) hg.nd
  have hnr := near_map (f := turnB k (1, 0, 0)) fun c hc => turnB_near (k := k) (hg.near c hc) ho
  have h := turnG_ok a va k hk (1, 0, 0) w ha.1 hl ca (vec_of (ho.mono (by omega))) (turnA_lt hk) (ho.mono (by omega)) (fun c hc => vec_of ((hnr c hc).mono (by omega))) hnd (fun c hc => (hg.near c hc).mono (by omega))
  refine h.mono ?_
  rintro e w' ⟨B, rfl, hB, hF, hBel⟩
  have hlen : (sortC (a.map (turnB k (1, 0, 0)))).length = a.length := by rw [sortC_len, List.length_map]
  have hs := St.of_filled hF hlen hl
  refine ⟨some ⟨B, 0, none⟩, a.length, by rw [hlen], by rw [hlen]; exact hs, hBel⟩
end Go.Proofs
end
