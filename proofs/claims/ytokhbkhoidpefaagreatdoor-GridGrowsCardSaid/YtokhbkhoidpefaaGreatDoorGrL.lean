import Derived.Test.YtokhbkhoidpefaaGreatDoorG3
import Derived.Test.YtokhbkhoidpefaaGreatDoorGrowG
import Derived.Test.YtokhbkhoidpefaaGreatDoorShrinkG
import Derived.Test.YtokhbkhoidpefaaGreatDoorApartG
import Derived.Test.YtokhbkhoidpefaaGreatDoorUnionR
section
/- A result beside what is wanted. -/
namespace Go.Proofs
open Go.RowKit
set_option maxHeartbeats 8000000
set_option maxRecDepth 1000000
/-- A result of the program, where r is wanted as its error, or l as its set. -/
def Res (w : World) (A : Option Addr) (n cap : Nat) (E r : Int) (l : List Cel) : Prop := (r ≠ 0 ∧ E = r ∧ n = 0) ∨ (r = 0 ∧ E = 0 ∧ n = l.length ∧ l.length ≤ 4096 ∧ Sl w (.slice A n cap) l)
theorem Res.below {w w' : World} {A : Option Addr} {n cap : Nat} {E r : Int} {l : List Cel} (h : Res w A n cap E r l) (hb : Below w.heap.size w w') : Res w' A n cap E r l := by
  rcases h with h | ⟨h1, h2, h3, h4, h5⟩
  · exact .inl h
  · exact .inr ⟨h1, h2, h3, h4, h5.below hb⟩
theorem cells_res {w : World} {A : Option Addr} {n cap : Nat} {E r : Int} {l : List Cel} {u : Value} {m : List Cel} (h : Res w A n cap E r l) (hu : Sl w u m) (hm : r = 0 → m = l) :
    Calls Tryz.prog 22 #[.slice A n cap, .int .i64 E, .int .i64 r, u] w fun e w' => e = .returned (.bool true) ∧ Below w.heap.size w w' := by
  rcases h with ⟨h1, rfl, rfl⟩ | ⟨h1, rfl, rfl, h4, h5⟩
  · obtain ⟨B, cb, rfl⟩ := hu.form
    refine (cells_bad A B cap cb _ _ h1 w).mono ?_
    rintro e w' ⟨rfl, rfl⟩
    exact ⟨rfl, Below.refl _ _⟩
  · obtain rfl := hm h1
    subst h1
    exact cells_same m _ _ w h5 hu h4
end Go.Proofs
end

section
/- integer, and three errors. -/
namespace Go.Proofs
open Go.RowKit
set_option maxHeartbeats 8000000
set_option maxRecDepth 1000000
theorem integer_bad (e : Int) (he : e ≠ 0) (w : World) :
    Calls Tryz.prog 23 #[.int .i64 0, .int .i64 e, .int .i64 e, .int .i64 0] w fun e w' => e = .returned (.bool true) ∧ w' = w := by
  have hne : (e != 0) = true := by simpa using he
  clear he
  go_enter Tryz.func23, Tryz.ntmps23
  go_wp2
  go_ret
  exact ⟨rfl, rfl⟩
theorem integer_same (n : Int) (w : World) :
    Calls Tryz.prog 23 #[.int .i64 n, .int .i64 0, .int .i64 0, .int .i64 n] w fun e w' => e = .returned (.bool true) ∧ w' = w := by
  go_enter Tryz.func23, Tryz.ntmps23
  go_wp2
  go_ret
  exact ⟨by simp, rfl⟩
theorem fst_or3 (a b c : Int) : fstI [a, b, c] = orI a b c := by
  unfold orI
  simp only [fstI]
  by_cases h1 : a = 0 <;> by_cases h2 : b = 0 <;> by_cases h3 : c = 0 <;> simp [h1, h2, h3]
theorem firstL3 (a b c : Int) (blk cap : Nat) (w : World) (h0 : w.cell? ⟨blk, 0, none⟩ = some (.int .i64 a)) (h1 : w.cell? ⟨blk, 1, none⟩ = some (.int .i64 b)) (h2 : w.cell? ⟨blk, 2, none⟩ = some (.int .i64 c)) :
    Calls Tryz.prog 14 #[.slice (some ⟨blk, 0, none⟩) 3 cap] w fun e w' => e = .returned (.int .i64 (fstI [a, b, c])) ∧ w' = w :=
  firstL_ok [a, b, c] blk cap w (by simp) fun k x hk => by
    match k, hk with
    | 0, hk => simp at hk; subst hk; exact h0
    | 1, hk => simp at hk; subst hk; exact h1
    | 2, hk => simp at hk; subst hk; exact h2
    | k + 3, hk => simp at hk
end Go.Proofs
end

section
/- GridGrows: small facts: Grow's and Apart's error ways; how many cells a grown set has. -/
namespace Go.Proofs
open Go.RowKit
set_option maxHeartbeats 8000000
set_option maxRecDepth 1000000
theorem growG_bad (l : List Cel) (v : Value) (n : Int) (w : World) (hl : Sl w v l) (hn : l.length ≤ maxLen) (a1 a2 : Int) (hc1 : chkI l = a1) (hw1 : withinI n 0 64 = a2) (h0 : orI a1 a2 0 ≠ 0) :
    Calls Tryz.prog 34 #[v, .int .i64 n] w fun e w' => e = .returned (.tuple #[.slice none 0 0, .int .i64 (orI a1 a2 0)]) ∧ Below w.heap.size w w' := by
  have h1 := gridCheckG l v w hl hn
  rw [hc1] at h1
  have hne : (orI a1 a2 0 != 0) = true := by rw [bne_iff_ne]; exact h0
  have hf2 := fun blk W => first2_ok a1 a2 blk 2 W
  generalize orI a1 a2 0 = r at hne hf2 ⊢
  have k1 := fun W => within_ok n 0 64 W
  rw [hw1] at k1
  clear hl hn hc1 hw1 h0
  refine (callsIn_wide (n := 3)).1 ?_
  refine callsIn_of_wp_marks Tryz.func34 rfl trivial ?_ rfl
  simp only [Tryz.ntmps34, List.size_toArray, List.length_cons, List.length_nil, Nat.reduceAdd, Nat.reduceSub, Array.replicate_succ, Array.replicate_zero, List.push_toArray, List.append_toArray, List.nil_append, List.cons_append]
  gi_wp2
  refine wpIn_scope_straight ?_
  gi_wp2
  refine ⟨trivial, (callsIn_wide.2 h1).mono ?_⟩
  rintro e w2 ⟨rfl, hB2⟩
  gi_wp2
  refine ⟨trivial, (callsIn_wide.2 (k1 _)).mono ?_⟩
  rintro e w3 ⟨rfl, hw3⟩
  subst hw3
  gi_wp2
  refine ⟨trivial, (callsIn_wide.2 (hf2 _ _ (by go_simp) (by go_simp))).mono ?_⟩
  rintro e w5 ⟨rfl, hw5⟩
  have hX : Below w.heap.size w w5 := by subst hw5; exact hB2.alloc hB2.size _
  clear hw5 hB2 hf2 k1 h1
  gi_wp2
  exact ⟨_, results_tmp2 rfl _ _ _, rfl, hX⟩
/-- The error that Apart shall give. -/
def apE (a b : List Cel) : Int := fstI [chkI a, chkI b, if a.length = 0 ∨ b.length = 0 then 12 else 0]
theorem apE_zero {a b : List Cel} (h : apE a b = 0) : chkI a = 0 ∧ chkI b = 0 ∧ 0 < a.length ∧ 0 < b.length := by
  unfold apE at h
  rw [fst_or3] at h
  unfold orI at h
  split at h
  · rename_i h1; exact absurd h h1
  · rename_i h1
    split at h
    · rename_i h2; exact absurd h h2
    · rename_i h2
      split at h
      · omega
      · rename_i h3
        exact ⟨Decidable.not_not.1 h1, Decidable.not_not.1 h2, by omega, by omega⟩
theorem apartG_err (a b : List Cel) (va vb : Value) (w : World) (ha : Sl w va a) (hb : Sl w vb b) (la : a.length ≤ maxLen) (lb : b.length ≤ maxLen) (r : Int) (hr : apE a b = r) (h0 : r ≠ 0) :
    Calls Tryz.prog 36 #[va, vb] w fun e w' => e = .returned (.tuple #[.int .i64 0, .int .i64 r]) ∧ Below w.heap.size w w' := by
  by_cases h1 : orI (chkI a) (chkI b) 0 = 0
  · have h2 : chkI a = 0 ∧ chkI b = 0 := by
      unfold orI at h1
      by_cases e1 : chkI a = 0 <;> by_cases e2 : chkI b = 0 <;> simp_all
    have hr' : (if a.length = 0 ∨ b.length = 0 then (12 : Int) else 0) = r := by
      unfold apE at hr
      rw [h2.1, h2.2] at hr
      rw [fst_or3] at hr
      unfold orI at hr
      rw [if_neg (by omega), if_neg (by omega)] at hr
      exact hr
    by_cases e : a.length = 0
    · rw [if_pos (.inl e)] at hr'
      subst hr'
      exact apartG_none1 a b va vb w ha hb h2.1 h2.2 e
    · by_cases e' : b.length = 0
      · rw [if_pos (.inr e')] at hr'
        subst hr'
        exact apartG_none2 a b va vb w ha hb h2.1 h2.2 (by omega) e'
      · rw [if_neg (by omega)] at hr'
        exact absurd hr'.symm h0
  · have hr' : orI (chkI a) (chkI b) 0 = r := by
      rw [← hr]
      unfold apE
      rw [fst_or3]
      unfold orI at h1 ⊢
      by_cases e1 : chkI a = 0 <;> by_cases e2 : chkI b = 0 <;> simp_all
    exact apartG_bad a b va vb w ha hb la lb r hr' h0
/-- The cells that are at most three steps from the middle. -/
def offs : List Cel := ((List.range 343).map fun t => (((t / 49 : Nat) : Int) - 3, ((t / 7 % 7 : Nat) : Int) - 3, ((t % 7 : Nat) : Int) - 3)).filter fun o => decide (max o.1 (-o.1) + max o.2.1 (-o.2.1) + max o.2.2 (-o.2.2) ≤ 3)
theorem offs_len : offs.length = 63 := by decide +kernel
theorem offs_mem {x y z : Int} (h : max x (-x) + max y (-y) + max z (-z) ≤ 3) : (x, y, z) ∈ offs := by
  obtain ⟨a, ha⟩ : ∃ a : Nat, x = (a : Int) - 3 := ⟨(x + 3).toNat, by omega⟩
  obtain ⟨b, hb⟩ : ∃ b : Nat, y = (b : Int) - 3 := ⟨(y + 3).toNat, by omega⟩
  obtain ⟨c, hc⟩ : ∃ c : Nat, z = (c : Int) - 3 := ⟨(z + 3).toNat, by omega⟩
  subst ha hb hc
  have ha : a ≤ 6 := by omega
  have hb : b ≤ 6 := by omega
  have hc : c ≤ 6 := by omega
  refine List.mem_filter.2 ⟨List.mem_map.2 ⟨a * 49 + b * 7 + c, List.mem_range.2 (by omega), ?_⟩, decide_eq_true h⟩
  have e1 : (a * 49 + b * 7 + c) / 49 = a := by omega
  have e2 : (a * 49 + b * 7 + c) / 7 % 7 = b := by omega
  have e3 : (a * 49 + b * 7 + c) % 7 = c := by omega
  rw [e1, e2, e3]
theorem dist_near {p c d : Cel} {n : Int} (h : distI p c ≤ n) (hd : d ∈ nearL c) : distI p d ≤ n + 1 := by
  obtain ⟨x, y, z⟩ := c
  unfold nearL at hd
  unfold distI at h ⊢
  simp only [List.mem_cons, List.mem_nil_iff, or_false] at hd
  rcases hd with rfl | rfl | rfl | rfl | rfl | rfl <;> (dsimp only at h ⊢; omega)
theorem grow_dist {l : List Cel} : ∀ (n : Nat) (c : Cel), c ∈ growN n l → ∃ p ∈ l, distI p c ≤ n
  | 0, c, hc => ⟨c, hc, by unfold distI; omega⟩
  | n + 1, c, hc => by
    rcases mem_step.1 hc with hc | ⟨d, hd, hc⟩
    · obtain ⟨p, hp, h⟩ := grow_dist n c hc
      exact ⟨p, hp, by omega⟩
    · obtain ⟨p, hp, h⟩ := grow_dist n d hd
      exact ⟨p, hp, by have := dist_near h hc; omega⟩
theorem grow_small {l : List Cel} (hl : l.length ≤ 40) {i : Nat} (hi : i ≤ 3) {S : List Cel} (hnd : S.Nodup) (hS : ∀ c ∈ S, c ∈ growN i l) : S.length ≤ 4000 := by
  have hsub : ∀ c ∈ S, c ∈ l.flatMap fun p => offs.map fun o => (p.1 + o.1, p.2.1 + o.2.1, p.2.2 + o.2.2) := fun c hc => by
    obtain ⟨p, hp, h⟩ := grow_dist i c (hS c hc)
    refine List.mem_flatMap.2 ⟨p, hp, List.mem_map.2 ⟨(c.1 - p.1, c.2.1 - p.2.1, c.2.2 - p.2.2), offs_mem ?_, ?_⟩⟩
    · unfold distI at h
      omega
    · obtain ⟨c1, c2, c3⟩ := c
      simp only [Prod.mk.injEq]
      omega
  have h1 := nodup_len hnd hsub
  have h2 : ∀ m : List Cel, (m.flatMap fun p => offs.map fun o => (p.1 + o.1, p.2.1 + o.2.1, p.2.2 + o.2.2)).length = m.length * 63 := fun m => by
    induction m with
    | nil => rfl
    | cons c m ih => rw [List.flatMap_cons, List.length_append, ih, List.length_map, offs_len]; simp; omega
  rw [h2] at h1
  omega
/-- Grow beside what is wanted. -/
theorem grow_res {l : List Cel} {v : Value} {n : Nat} {w : World} (hl : Sl w v l) (hc : chkI l = 0) (h40 : l.length ≤ 40) (hn : n ≤ 3) :
    Calls Tryz.prog 34 #[v, .int .i64 n] w fun e w' => ∃ (X : List Cel) (A : Option Addr) (m cap : Nat) (E : Int), Up X ∧ (∀ c, c ∈ X ↔ c ∈ growN n l) ∧ e = .returned (.tuple #[.slice A m cap, .int .i64 E]) ∧ Res w' A m cap E (outI X) X ∧ Below w.heap.size w w' := by
  refine (growG_ok l v n w hl hc (by omega) fun i hi S h1 h2 => grow_small h40 (by omega) h1 h2).mono ?_
  rintro e w' ⟨X, hu, hm, hlX, h | ⟨h, v', rfl, hS⟩, hB⟩
  · obtain ⟨h, rfl⟩ := h
    exact ⟨X, none, 0, 0, _, hu, hm, rfl, .inl ⟨h, rfl, rfl⟩, hB⟩
  · obtain ⟨A, cap, rfl⟩ := hS.form
    exact ⟨X, A, _, cap, _, hu, hm, rfl, .inr ⟨h, rfl, rfl, hlX, hS⟩, hB⟩
end Go.Proofs
end

section
/- GridGrows: what each call gives, as the law's walk carries it. -/
namespace Go.Proofs
open Go.RowKit
set_option maxHeartbeats 8000000
set_option maxRecDepth 1000000
def GetG (W : World) (r : Int) (l : List Cel) (e : Ending) (W' : World) : Prop := ∃ (A : Option Addr) (n cap : Nat) (E : Int), e = .returned (.tuple #[.slice A n cap, .int .i64 E]) ∧ Res W' A n cap E r l ∧ Below W.heap.size W W'
theorem getg_bad {W W' : World} {r : Int} {l : List Cel} {e : Ending} (h0 : r ≠ 0) (h : e = .returned (.tuple #[.slice none 0 0, .int .i64 r]) ∧ Below W.heap.size W W') : GetG W r l e W' := ⟨none, 0, 0, r, h.1, .inl ⟨h0, rfl, rfl⟩, h.2⟩
theorem shrN_len : ∀ (n : Nat) (l : List Cel), (shrN n l).length ≤ l.length
  | 0, _ => Nat.le_refl _
  | n + 1, l => by
    unfold shrN
    exact Nat.le_trans (shrN_len n _) (List.length_filter_le _ _)
theorem shrink_res {l : List Cel} {v : Value} {n : Nat} {w : World} (hl : Sl w v l) (hc : chkI l = 0) (hn : n ≤ 3) :
    Calls Tryz.prog 35 #[v, .int .i64 n] w fun e w' => GetG w 0 (shrN n l) e w' := by
  refine (shrinkG_ok l v n w hl hc (by omega)).mono ?_
  rintro e w' ⟨v', rfl, hs, hB⟩
  obtain ⟨A, cap, rfl⟩ := hs.form
  exact ⟨A, _, cap, 0, rfl, .inr ⟨rfl, rfl, rfl, Nat.le_trans (shrN_len n l) (chkI_zero.1 hc).1, hs⟩, hB⟩
def RefG (W : World) (l : List Cel) (e : Ending) (W' : World) : Prop := ∃ (A : Option Addr) (cap : Nat), e = .returned (.slice A l.length cap) ∧ Sl W' (.slice A l.length cap) l ∧ Below W.heap.size W W'
theorem shrink_ref {l : List Cel} {v : Value} {n : Nat} {w : World} (hl : Sl w v l) (hc : chkI l = 0) (hn : n ≤ 3) :
    Calls Tryz.prog 39 #[v, .int .i64 n] w fun e w' => RefG w (shrN n l) e w' := by
  obtain ⟨h1, h2, h3⟩ := chkI_zero.1 hc
  refine (refShrink_ok l v n w hl (by omega) (fun c hcm => (h2 c hcm).mono (by omega)) (by omega)).mono ?_
  rintro e w' ⟨v', rfl, ho, hB⟩
  have hs := ho.sl
  obtain ⟨A, cap, rfl⟩ := hs.form
  exact ⟨A, cap, rfl, hs, hB⟩
theorem grow_ref {l X : List Cel} {v : Value} {n : Nat} {w : World} (hl : Sl w v l) (hc : chkI l = 0) (h40 : l.length ≤ 40) (hn : n ≤ 3) (hu : Up X) (hm : ∀ c, c ∈ X ↔ c ∈ growN n l) :
    Calls Tryz.prog 38 #[v, .int .i64 n] w fun e w' => RefG w X e w' := by
  obtain ⟨h1, h2, h3⟩ := chkI_zero.1 hc
  refine (refGrow_ok l v n w hl (by omega) h2 (by omega) h3 fun i hi S h1 h2 => Nat.le_trans (grow_small h40 (by omega) h1 h2) (by omega)).mono ?_
  rintro e w' ⟨v', out, rfl, ho, hu', hm', hB⟩
  obtain rfl : out = X := up_ext hu' hu fun x => (hm' x).trans (hm x).symm
  have hs := ho.sl
  obtain ⟨A, cap, rfl⟩ := hs.form
  exact ⟨A, cap, rfl, hs, hB⟩
theorem apart_ref {a b : List Cel} {va vb : Value} {m : Int} {w : World} (ha : Sl w va a) (hb : Sl w vb b) (ca : chkI a = 0) (cb : chkI b = 0) (h0a : 0 < a.length) (h0b : 0 < b.length) (hm : Least a b m) :
    Calls Tryz.prog 37 #[va, vb] w fun e w' => e = .returned (.int .i64 m) ∧ Below w.heap.size w w' := by
  obtain ⟨a1, a2, a3⟩ := chkI_zero.1 ca
  obtain ⟨b1, b2, b3⟩ := chkI_zero.1 cb
  refine (refApart_ok a b va vb w ha hb (by omega) (by omega) (fun c h => (a2 c h).mono (by omega)) (fun c h => (b2 c h).mono (by omega)) h0a h0b).mono ?_
  rintro e w' ⟨m', rfl, hm', hB⟩
  rw [hm.uniq hm']
  exact ⟨rfl, hB⟩
theorem fst_zero_two (o : Int) : fstI [0, o] = o := by
  rw [fst_or]
  unfold orI
  by_cases h : o = 0 <;> simp [h]
end Go.Proofs
end
