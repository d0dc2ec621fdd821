import Derived.Test.YtdiddniddohhgaaGreatDoorPakQ
import Derived.Test.YtdiddniddohhgaaGreatDoorFewB
import Derived.Test.YtdiddniddohhgaaGreatDoorJobP
import Derived.Lib.SliceRun
import Derived.Lib.AppendZeros
section
/- The sums of items by their programs, in a list of pairs; the bound of the number of loads; no world. -/
namespace Go.Proofs
set_option maxHeartbeats 4000000
set_option maxRecDepth 100000
def szG (m : List (ByteArray × Int)) (x : ItemT) : List (ByteArray × Int) := putS x.2.1 ((getS x.2.1 m).getD 0 + x.2.2) m
def szI (l : List ItemT) (k : Nat) : List (ByteArray × Int) := (l.take k).foldl szG []
theorem szI_succ {l : List ItemT} {k : Nat} {x : ItemT} (h : l[k]? = some x) : szI l (k + 1) = szG (szI l k) x := by
  unfold szI
  rw [List.take_add_one, h]
  simp
theorem getS_put (s : ByteArray) (v : Int) (P : ByteArray) : ∀ m : List (ByteArray × Int), getS P (putS s v m) = if P = s then some v else getS P m
  | [] => rfl
  | p :: m => by
    unfold putS
    by_cases h : s = p.1
    · rw [if_pos h]
      unfold getS
      dsimp only
      by_cases h2 : P = s
      · rw [if_pos h2, if_pos h2]
      · rw [if_neg h2, if_neg h2, if_neg (fun e => h2 (e.trans h.symm))]
    · rw [if_neg h]
      unfold getS
      rw [getS_put s v P m]
      by_cases h2 : P = p.1
      · rw [if_pos h2, if_pos h2, if_neg (fun e => h (e.symm.trans h2))]
      · rw [if_neg h2, if_neg h2]
theorem putS_mem {s : ByteArray} {v : Int} {q : ByteArray × Int} : ∀ {m : List (ByteArray × Int)}, (m.map (·.1)).Nodup → q ∈ putS s v m → q = (s, v) ∨ (q ∈ m ∧ q.1 ≠ s)
  | [], _, h => by
    have : q = (s, v) := by simpa [putS] using h
    exact .inl this
  | p :: m, hn, h => by
    rw [List.map_cons, List.nodup_cons] at hn
    unfold putS at h
    by_cases hs : s = p.1
    · rw [if_pos hs] at h
      rcases List.mem_cons.1 h with h | h
      · exact .inl h
      · exact .inr ⟨by simp [h], fun e => hn.1 (List.mem_map.2 ⟨q, h, by rw [e, hs]⟩)⟩
    · rw [if_neg hs] at h
      rcases List.mem_cons.1 h with h | h
      · exact .inr ⟨by simp [h], by rw [h]; exact fun e => hs e.symm⟩
      · rcases putS_mem hn.2 h with h2 | ⟨h2, h3⟩
        · exact .inl h2
        · exact .inr ⟨by simp [h2], h3⟩
theorem putS_key {s : ByteArray} {v : Int} {P : ByteArray} : ∀ {m : List (ByteArray × Int)}, P ∈ (putS s v m).map (·.1) → P = s ∨ P ∈ m.map (·.1)
  | [], h => by
    have : P = s := by simpa [putS] using h
    exact .inl this
  | p :: m, h => by
    unfold putS at h
    by_cases hs : s = p.1
    · rw [if_pos hs, List.map_cons] at h
      rcases List.mem_cons.1 h with h | h
      · exact .inl h
      · exact .inr (by rw [List.map_cons]; exact List.mem_cons_of_mem _ h)
    · rw [if_neg hs, List.map_cons] at h
      rcases List.mem_cons.1 h with h | h
      · exact .inr (by rw [List.map_cons, h]; exact List.mem_cons_self)
      · rcases putS_key h with h2 | h2
        · exact .inl h2
        · exact .inr (by rw [List.map_cons]; exact List.mem_cons_of_mem _ h2)
theorem putS_nodup {s : ByteArray} {v : Int} : ∀ {m : List (ByteArray × Int)}, (m.map (·.1)).Nodup → ((putS s v m).map (·.1)).Nodup
  | [], _ => by simp [putS]
  | p :: m, hn => by
    rw [List.map_cons, List.nodup_cons] at hn
    unfold putS
    by_cases hs : s = p.1
    · rw [if_pos hs, List.map_cons, List.nodup_cons]
      exact ⟨by show s ∉ _; rw [hs]; exact hn.1, hn.2⟩
    · rw [if_neg hs, List.map_cons, List.nodup_cons]
      refine ⟨fun h => ?_, putS_nodup hn.2⟩
      rcases putS_key h with h2 | h2
      · exact hs h2.symm
      · exact hn.1 h2
/-- The sums are those of the programs. -/
structure SzOk (l : List ItemT) (m : List (ByteArray × Int)) : Prop where
  nd : (m.map (·.1)).Nodup
  val : ∀ p ∈ m, p.2 = sumI p.1 l
  get : ∀ P, (getS P m).getD 0 = sumI P l
theorem sz_ok (l : List ItemT) : ∀ k, k ≤ l.length → SzOk (l.take k) (szI l k)
  | 0, _ => by
    unfold szI
    exact ⟨by simp, fun p hp => by simp at hp, fun P => rfl⟩
  | k + 1, hk => by
    obtain ⟨x, hx⟩ : ∃ x, l[k]? = some x := ⟨_, List.getElem?_eq_getElem (by omega)⟩
    have ih := sz_ok l k (by omega)
    have hs : ∀ P, sumI P (l.take (k + 1)) = sumI P (l.take k) + (if x.2.1 = P then x.2.2 else 0) := fun P => by
      rw [List.take_add_one, hx]
      exact sumI_app P _ x
    rw [szI_succ hx]
    unfold szG
    refine ⟨putS_nodup ih.nd, fun p hp => ?_, fun P => ?_⟩
    · rcases putS_mem ih.nd hp with rfl | ⟨h1, h2⟩
      · show _ = sumI x.2.1 _
        rw [hs, if_pos rfl, ih.get]
      · rw [hs, if_neg (fun e => h2 e.symm), ih.val p h1]
        omega
    · rw [getS_put, hs]
      by_cases h : P = x.2.1
      · subst h
        rw [if_pos rfl, if_pos rfl, ih.get]
        rfl
      · rw [if_neg h, if_neg (fun e => h e.symm), ih.get]
        omega
theorem sumI_bd {B : Int} (P : ByteArray) (hB : 0 ≤ B) : ∀ (l : List ItemT), (∀ x ∈ l, 0 ≤ x.2.2 ∧ x.2.2 ≤ B) → 0 ≤ sumI P l ∧ sumI P l ≤ B * l.length
  | [], _ => by simp [sumI]
  | x :: l, h => by
    have ih := sumI_bd P hB l fun y hy => h y (by simp [hy])
    have h1 := h x (by simp)
    have e : B * ((x :: l).length : Int) = B * l.length + B := by rw [List.length_cons, Int.natCast_add, Int.mul_add]; simp
    rw [e]
    unfold sumI
    split <;> omega
theorem sum_small9 {cp : Int} {l : List ItemT} (h64 : l.length ≤ 64) (hc : cp ≤ 999999999) (h : ∀ x ∈ l, 1 ≤ x.2.2 ∧ x.2.2 ≤ cp) (P : ByteArray) (k : Nat) : 0 ≤ sumI P (l.take k) ∧ sumI P (l.take k) ≤ 64000000000 := by
  have h1 := sumI_bd (B := 999999999) P (by omega) (l.take k) fun x hx => by have := h x (List.mem_of_mem_take hx); omega
  have h2 : (l.take k).length ≤ 64 := by rw [List.length_take]; omega
  omega
theorem getS_small {cp : Int} {l : List ItemT} (h64 : l.length ≤ 64) (hc : cp ≤ 999999999) (h : ∀ x ∈ l, 1 ≤ x.2.2 ∧ x.2.2 ≤ cp) {k : Nat} {x : ItemT} (hx : l[k]? = some x) : 0 ≤ (getS x.2.1 (szI l k)).getD 0 + x.2.2 ∧ (getS x.2.1 (szI l k)).getD 0 + x.2.2 ≤ 100000000000 := by
  rw [(sz_ok l k (Nat.le_of_lt (List.getElem?_eq_some_iff.1 hx).1)).get]
  have h1 := sum_small9 h64 hc h x.2.1 k
  have h2 := h x (List.mem_of_getElem? hx)
  omega
/-- A step of the bound as the machine reckons it. -/
def accG (cp acc x : Int) : Int := IntKind.i64.wrap (acc + IntKind.i64.wrap ((IntKind.i64.wrap (IntKind.i64.wrap (x + cp) - 1)).tdiv cp))
theorem ceil_bd {cp x : Int} (hc : 1 ≤ cp) (hx : 0 ≤ x) : 0 ≤ ceilD x cp ∧ ceilD x cp ≤ x := by
  refine ⟨ceil_nn hx (by omega), ?_⟩
  unfold ceilD
  refine Int.le_of_lt_add_one (Int.ediv_lt_of_lt_mul (by omega) ?_)
  have h : x * 1 ≤ x * cp := Int.mul_le_mul_of_nonneg_left hc hx
  rw [Int.add_mul, Int.one_mul]
  omega
theorem accG_ok {cp acc x : Int} (hc : 1 ≤ cp ∧ cp ≤ 999999999) (hx : 0 ≤ x ∧ x ≤ 64000000000) (ha : 0 ≤ acc ∧ acc ≤ 100000000000000) : accG cp acc x = acc + ceilD x cp := by
  have h1 := ceil_bd hc.1 hx.1
  unfold accG
  rw [wrap_small (n := x + cp) (by omega), wrap_small (n := x + cp - 1) (by omega), Int.tdiv_eq_ediv_of_nonneg (by omega)]
  show IntKind.i64.wrap (acc + IntKind.i64.wrap (ceilD x cp)) = _
  rw [wrap_small (n := ceilD x cp) (by omega), wrap_small (by omega)]
theorem accs_ok {cp : Int} (hc : 1 ≤ cp ∧ cp ≤ 999999999) : ∀ (ys : List Int) (acc : Int), (∀ y ∈ ys, 0 ≤ y ∧ y ≤ 64000000000) → 0 ≤ acc → acc + 64000000000 * ys.length ≤ 100000000000000 → ys.foldl (accG cp) acc = acc + (ys.map fun y => ceilD y cp).foldl (fun s x => s + x) 0
  | [], acc, _, _, _ => by simp
  | y :: ys, acc, h, h0, hb => by
    have hy := h y (by simp)
    have h1 := ceil_bd hc.1 hy.1
    have e : (64000000000 : Int) * ((y :: ys).length : Int) = 64000000000 * ys.length + 64000000000 := by rw [List.length_cons]; omega
    rw [e] at hb
    rw [List.foldl_cons, accG_ok hc hy (by omega), accs_ok hc ys _ (fun z hz => h z (by simp [hz])) (by omega) (by omega), List.map_cons, List.foldl_cons]
    have gen : ∀ (l : List Int) (s : Int), l.foldl (fun s x => s + x) s = s + l.foldl (fun s x => s + x) 0 := fun l => by
      induction l with
      | nil => intro s; simp
      | cons a l ih => intro s; rw [List.foldl_cons, List.foldl_cons, ih, ih (0 + a)]; omega
    rw [gen _ (0 + ceilD y cp)]
    omega
theorem sum_perm9 {a b : List Int} (h : a.Perm b) : a.foldl (fun s x => s + x) 0 = b.foldl (fun s x => s + x) 0 := by
  have gen : ∀ (l : List Int) (s : Int), l.foldl (fun s x => s + x) s = s + l.foldl (fun s x => s + x) 0 := fun l => by
    induction l with
    | nil => intro s; simp
    | cons a l ih => intro s; rw [List.foldl_cons, List.foldl_cons, ih, ih (0 + a)]; omega
  induction h with
  | nil => rfl
  | cons x _ ih => rw [List.foldl_cons, List.foldl_cons, gen, ih, ← gen]
  | swap x y l => rw [List.foldl_cons, List.foldl_cons, List.foldl_cons, List.foldl_cons, show (0 : Int) + y + x = 0 + x + y by omega]
  | trans _ _ h1 h2 => exact h1.trans h2
theorem bndF_sum (cp : Int) : ∀ m : List (ByteArray × Int), bndF cp m = ((m.map (·.2)).map fun y => ceilD y cp).foldl (fun s x => s + x) 0
  | [] => rfl
  | p :: m => by
    have gen : ∀ (l : List Int) (s : Int), l.foldl (fun s x => s + x) s = s + l.foldl (fun s x => s + x) 0 := fun l => by
      induction l with
      | nil => intro s; simp
      | cons a l ih => intro s; rw [List.foldl_cons, List.foldl_cons, ih, ih (0 + a)]; omega
    rw [List.map_cons, List.map_cons, List.foldl_cons, gen, ← bndF_sum cp m]
    show ceilD p.2 cp + bndF cp m = _
    omega
theorem putS_len {s : ByteArray} {v : Int} : ∀ {m : List (ByteArray × Int)}, (putS s v m).length ≤ m.length + 1
  | [] => by simp [putS]
  | p :: m => by
    unfold putS
    split
    · simp
    · have := putS_len (s := s) (v := v) (m := m)
      simp only [List.length_cons]
      omega
theorem szI_len (l : List ItemT) : ∀ k, (szI l k).length ≤ k
  | 0 => by simp [szI]
  | k + 1 => by
    cases h : l[k]? with
    | none =>
      have e : szI l (k + 1) = szI l k := by unfold szI; rw [List.take_add_one, h]; simp
      rw [e]
      have := szI_len l k
      omega
    | some x =>
      rw [szI_succ h]
      unfold szG
      have h1 := putS_len (s := x.2.1) (v := (getS x.2.1 (szI l k)).getD 0 + x.2.2) (m := szI l k)
      have := szI_len l k
      omega
/-- The bound, in whatever order the sums come. -/
theorem acc_all {cp : Int} {l : List ItemT} (h64 : l.length ≤ 64) (hc : 1 ≤ cp ∧ cp ≤ 999999999) (h : ∀ x ∈ l, 1 ≤ x.2.2 ∧ x.2.2 ≤ cp) {ys : List Int} (hp : ys.Perm ((szI l l.length).map (·.2))) : ys.foldl (accG cp) 0 = bndF cp (szI l l.length) := by
  have hs := sz_ok l l.length (Nat.le_refl _)
  have hb : ∀ y ∈ ys, 0 ≤ y ∧ y ≤ 64000000000 := fun y hy => by
    obtain ⟨p, hp2, rfl⟩ := List.mem_map.1 (hp.mem_iff.1 hy)
    rw [hs.val p hp2]
    exact sum_small9 h64 hc.2 h p.1 l.length
  have hl : ys.length ≤ 64 := by
    have h1 := hp.length_eq
    rw [List.length_map] at h1
    have := szI_len l l.length
    omega
  rw [accs_ok hc ys 0 hb (Int.le_refl _) (by omega), sum_perm9 (hp.map fun y => ceilD y cp), ← bndF_sum]
  omega
theorem acc_part {cp : Int} {l : List ItemT} (h64 : l.length ≤ 64) (hc : 1 ≤ cp ∧ cp ≤ 999999999) (h : ∀ x ∈ l, 1 ≤ x.2.2 ∧ x.2.2 ≤ cp) : bndF cp (szI l l.length) ≤ 100000000000000 ∧ 0 ≤ bndF cp (szI l l.length) := by
  have hs := sz_ok l l.length (Nat.le_refl _)
  have hl := szI_len l l.length
  have key : ∀ m : List (ByteArray × Int), (∀ p ∈ m, 0 ≤ p.2 ∧ p.2 ≤ 64000000000) → 0 ≤ bndF cp m ∧ bndF cp m ≤ 64000000000 * m.length := fun m => by
    induction m with
    | nil => intro _; simp [bndF]
    | cons p m ih =>
      intro hm
      have h1 := ih fun q hq => hm q (by simp [hq])
      have h2 := hm p (by simp)
      have h3 := ceil_bd hc.1 h2.1
      have e : (64000000000 : Int) * ((p :: m).length : Int) = 64000000000 * m.length + 64000000000 := by rw [List.length_cons]; omega
      rw [e]
      show 0 ≤ ceilD p.2 cp + bndF cp m ∧ ceilD p.2 cp + bndF cp m ≤ _
      omega
  have h1 := key (szI l l.length) fun p hp => by rw [hs.val p hp]; exact sum_small9 h64 hc.2 h p.1 l.length
  omega
end Go.Proofs
end

section
/- Jobs: Clone and Contains of ints; ready, starts, ends, stations. -/
namespace Go.Proofs
open Go.RowKit
set_option maxHeartbeats 4000000
set_option maxRecDepth 1000000
theorem eqlI_nil (w : World) : (binOp .eql 23 (.slice none 0 0) (.slice none 0 0)).run Tryz.prog w = .ok (.bool true) w := Go.Lib.run_eql_slice_nil w _ _ none 0 0 0 0 Tryz.underlying23
theorem eqlI_some (w : World) (a : Addr) (n c : Nat) : (binOp .eql 23 (.slice (some a) n c) (.slice none 0 0)).run Tryz.prog w = .ok (.bool false) w := Go.Lib.run_eql_slice_nil w _ _ (some a) n c 0 0 Tryz.underlying23
theorem cloneI_ok (l : List Int) (v : Value) (w : World) (hl : SlI w v l) (hn : l.length ≤ 100000) :
    Calls Tryz.prog 68 #[v] w fun e w' => (∃ u, e = .returned u ∧ OwnI 3 w' w.heap.size u l) ∧ Below w.heap.size w w' := by
  have hq0 := eqlI_nil
  have hq1 := eqlI_some
  rcases hl with ⟨rfl, rfl⟩ | ⟨a, cap, rfl, h⟩
  · go_enter Tryz.func68, Tryz.ntmps68
    go_wp2
    go_ret
    exact ⟨⟨_, rfl, OwnI.nil _ _ _⟩, Below.refl _ _⟩
  · by_cases h0 : l = []
    · subst h0
      clear h
      go_enter Tryz.func68, Tryz.ntmps68
      go_wp2
      go_ret
      exact ⟨⟨_, rfl, World.ownsRow_lit w #[] 0 (Nat.le_refl _) (Nat.zero_le _) rfl⟩, (Below.refl _ _).alloc (Nat.le_refl _) _⟩
    · obtain ⟨h1, h2, h3⟩ := h h0
      obtain ⟨b, o, sp⟩ := a
      obtain rfl : sp = none := h1
      have hp : 0 < l.length := List.length_pos_iff.2 h0
      obtain ⟨W1, hW1⟩ : ∃ W1, W1 = w.alloc (.cells #[] 3) := ⟨_, rfl⟩
      have hB1 : Below w.heap.size w W1 := by subst hW1; exact (Below.refl _ _).alloc (Nat.le_refl _) _
      have ho : OwnI 3 W1 w.heap.size (.slice (some ⟨w.heap.size, 0, none⟩) 0 0) [] := by subst hW1; exact World.ownsRow_lit w #[] 0 (Nat.le_refl _) (Nat.zero_le _) rfl
      obtain ⟨A2, c2, W2, hap, hown, hg, -, hc⟩ := run_append_ints W1 23 w.heap.size _ [] l ho b o cap (h3.below hB1 h2) h0 (by simp; omega) hB1.size
      have hB2 : Below w.heap.size w W2 := hB1.grown hg hB1.size (fun g e => by have := (ho.lt g e).1; omega)
      simp only [List.length_nil, Nat.zero_add, List.nil_append] at hap hown
      have HW := Lib.hid hW1
      have HAP := Lib.hid hap
      have HO := Lib.hid hown
      clear hap hW1 hc hg ho h3 hown h
      go_enter Tryz.func68, Tryz.ntmps68
      go_wp2_with (at_builtin; rw [← HW.out]; refine Lib.wpList_append_run _ rfl _ _ _ _ rfl _ _ rfl rfl _ _ HAP.out ?_)
      go_ret
      exact ⟨⟨_, rfl, HO.out⟩, hB2⟩
theorem indexI_ok (l : List Int) (x : Int) (v : Value) (w : World) (hl : SlI w v l) (hn : l.length ≤ 100000) :
    Calls Tryz.prog 119 #[v, .int .i64 x] w fun e w' => (∃ r : Int, e = .returned (.int .i64 r) ∧ (0 ≤ r ↔ x ∈ l)) ∧ w' = w := by
  obtain ⟨A, cap, rfl⟩ := hl.form
  go_enter Tryz.func119, Tryz.ntmps119
  go_wp2
  go_loopw [8] (fun i wr => ∃ k : Nat, k ≤ l.length ∧ i = .int .i64 k ∧ (∀ j y, j < k → l[j]? = some y → y ≠ x) ∧ wr = w) (fun i _ => l.length - (intOf i).toNat)
  case atStart => exact ⟨0, Nat.zero_le _, rfl, fun j y hj _ => absurd hj (Nat.not_lt_zero j), rfl⟩
  case round =>
    obtain ⟨k, hk, rfl, hall, rfl⟩ := hrel
    rcases Nat.lt_or_eq_of_le hk with hkn | rfl
    · obtain ⟨b, o, y, rfl, -, hb, hy, rk⟩ := hl.cells hkn
      have hi0 : (0 : Int) ≤ k := by omega
      have hi1 : (k : Int) < l.length := by omega
      have hwk := wrap64_small (n := (k : Int) + 1) (by omega)
      by_cases he : x = y
      · subst he
        go_wp2
        go_ret
        exact ⟨⟨k, rfl, ⟨fun _ => List.mem_of_getElem? hy, fun _ => by omega⟩⟩, rfl⟩
      · go_wp2
        refine ⟨⟨k + 1, hkn, by simp, fun j z hj hz => ?_, trivial⟩, by simp [intOf]; omega⟩
        rcases Nat.lt_or_eq_of_le (Nat.le_of_lt_succ hj) with h1 | rfl
        · exact hall j z h1 hz
        · obtain rfl := Option.some.inj (hy.symm.trans hz)
          exact fun e => he e.symm
    · go_wp2
      go_ret
      refine ⟨⟨-1, rfl, ⟨fun h => absurd h (by decide), fun h => ?_⟩⟩, rfl⟩
      obtain ⟨j, hj⟩ := List.mem_iff_getElem?.1 h
      exact absurd rfl (hall j x (List.getElem?_eq_some_iff.1 hj).1 hj)
theorem containsI_ok (l : List Int) (x : Int) (v : Value) (w : World) (hl : SlI w v l) (hn : l.length ≤ 100000) :
    Calls Tryz.prog 69 #[v, .int .i64 x] w fun e w' => e = .returned (.bool (decide (x ∈ l))) ∧ w' = w := by
  have h1 := indexI_ok l x v w hl hn
  go_enter Tryz.func69, Tryz.ntmps69
  go_wp2_with (go_at_call 119; refine h1.mono ?_; rintro e w2 ⟨⟨r, rfl, hr⟩, rfl⟩)
  go_ret
  have e : decide (0 ≤ r) = decide (x ∈ l) := decide_eq_decide.2 hr
  exact ⟨by rw [← e]; rfl, rfl⟩
def jobV (nm : ByteArray) (vt vd : Value) : Value := .agg #[.string nm, vt, vd]
theorem ready_ok (nm : ByteArray) (vt vd : Value) (t d : List Int) (s : Nat) (st : Int) (w : World) (ht : SlI w vt t) (hd : SlI w vd d) (hst : s < t.length) (hsd : s < d.length) (bt : ∀ x ∈ t, 0 ≤ x ∧ x ≤ 1440) (bd : ∀ x ∈ d, 0 ≤ x ∧ x ≤ 1440) (bs : 0 ≤ st ∧ st ≤ 1000000000) :
    Calls Tryz.prog 118 #[jobV nm vt vd, .int .i64 s, .int .i64 st] w fun e w' => e = .returned (.int .i64 (st + at0 t s + at0 d s)) ∧ Below w.heap.size w w' := by
  obtain ⟨A, c1, rfl⟩ := ht.form
  obtain ⟨D, c2, rfl⟩ := hd.form
  obtain ⟨b, o, x, rfl, -, hb, hx, r1⟩ := ht.cells hst
  obtain ⟨b', o', y, rfl, -, hb', hy, r2⟩ := hd.cells hsd
  have hxb := bt x (List.mem_of_getElem? hx)
  have hyb := bd y (List.mem_of_getElem? hy)
  rw [at0_some hx, at0_some hy]
  have w1 := wrap64_small (n := st + x) (by omega)
  have w2 := wrap_small (n := st + x) (by omega)
  have w3 := wrap64_small (n := st + x + y) (by omega)
  have w4 := wrap_small (n := st + x + y) (by omega)
  have hs0 : (0 : Int) ≤ s := by omega
  have hs1 : (s : Int) < t.length := by omega
  have hs2 : (s : Int) < d.length := by omega
  unfold jobV
  have hB : Below w.heap.size w (w.alloc (.cells #[.string nm, .slice (some ⟨b, o, none⟩) t.length c1, .slice (some ⟨b', o', none⟩) d.length c2] 132)) := (Below.refl _ _).alloc (Nat.le_refl _) _
  have n1 := Nat.ne_of_lt hb
  have n2 := Nat.ne_of_lt hb'
  clear ht hd hx hy bt bd hxb hyb bs
  go_enter Tryz.func118, Tryz.ntmps118
  go_wp2
  go_quiet (fail)
  go_wp2
  go_ret
  exact ⟨rfl, below_drewN hB _⟩
theorem stations_ok (vt : Value) (t : List Int) (b o n cap : Nat) (w : World) (h0 : w.cell? ⟨b, o + 1, none⟩ = some vt) (ht : SlI w vt t) (hn : 0 < n) :
    Calls Tryz.prog 64 #[.slice (some ⟨b, o, none⟩) n cap] w fun e w' => e = .returned (.int .i64 t.length) ∧ w' = w := by
  obtain ⟨A, c1, rfl⟩ := ht.form
  go_enter Tryz.func64, Tryz.ntmps64
  go_wp2
  go_ret
  exact ⟨rfl, rfl⟩
end Go.Proofs
end
